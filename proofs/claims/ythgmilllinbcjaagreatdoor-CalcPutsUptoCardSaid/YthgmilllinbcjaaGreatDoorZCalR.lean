/- Contract of calc's value at any tree that may be. No conditions but the work's. -/
import Derived.Test.YthgmilllinbcjaaGreatDoorZCalQB
import Derived.Test.YthgmilllinbcjaaGreatDoorZCalQC
import Derived.Test.YthgmilllinbcjaaGreatDoorZCalQD
import Derived.Test.YthgmilllinbcjaaGreatDoorZCalQE
import Derived.Test.YthgmilllinbcjaaGreatDoorZCalQH
namespace Go.Proofs.YthgmilllinbcjaaGreatDoor
open Go.RowKit
open Go.Lib (hid)

set_option maxHeartbeats 1000000 in
theorem leafNum_any (B : Nat) (n : Int) (A : Option Addr) (ln c : Nat) (w : World) :
    Calls Tryz.prog 46 #[.pointer (some ⟨B, 0, none⟩), .agg #[.string ⟨#[]⟩, .string ⟨#[]⟩, .int .i64 n, .slice A ln c]] w fun e w' => e = .returned (.int .i64 n) ∧ Below w.heap.size w w' := by
  have hX : Var4 (w.alloc (.cells #[.string ⟨#[]⟩, .string ⟨#[]⟩, .int .i64 n, .slice A ln c] 24)) w.heap.size (.string ⟨#[]⟩) (.string ⟨#[]⟩) (.int .i64 n) (.slice A ln c) := heap_alloc_new _ _
  have hal : Below w.heap.size w (w.alloc (.cells #[.string ⟨#[]⟩, .string ⟨#[]⟩, .int .i64 n, .slice A ln c] 24)) := (Below.refl _ _).alloc (Nat.le_refl _) _
  have x1 := hX.a1; have x2 := hX.a2
  go_enter Tryz.func46, Tryz.ntmps46
  go_wp2_with fail
  go_ret
  exact ⟨rfl, hal⟩
set_option maxHeartbeats 1000000 in
theorem leafName_any (nm : List UInt8) (h0 : nm ≠ []) (N B : Nat) (D : List (List UInt8)) (env : EnvI) (s : Asg) (n : Int) (A : Option Addr) (ln c : Nat) (w : World) (h : WorkAt w N B D env s) (hm : nm ∈ D) :
    Calls Tryz.prog 46 #[.pointer (some ⟨B, 0, none⟩), .agg #[.string ⟨#[]⟩, .string ⟨nm.toArray⟩, .int .i64 n, .slice A ln c]] w fun e w' => TellsE (readE (envV env) s nm) e ∧ Below w.heap.size w w' := by
  have hX : Var4 (w.alloc (.cells #[.string ⟨#[]⟩, .string ⟨nm.toArray⟩, .int .i64 n, .slice A ln c] 24)) w.heap.size (.string ⟨#[]⟩) (.string ⟨nm.toArray⟩) (.int .i64 n) (.slice A ln c) := heap_alloc_new _ _
  have hal : Below w.heap.size w (w.alloc (.cells #[.string ⟨#[]⟩, .string ⟨nm.toArray⟩, .int .i64 n, .slice A ln c] 24)) := (Below.refl _ _).alloc (Nat.le_refl _) _
  have x1 := hX.a1; have x2 := hX.a2
  have cR := workRead_any nm N B D env s _ (h.below hal) hm
  have e0 : nm.isEmpty = false := by cases nm with | nil => exact absurd rfl h0 | cons => rfl
  have e1 : (nm == []) = false := by simpa using h0
  clear h hm hX
  go_enter Tryz.func46, Tryz.ntmps46
  generalize hw0 : w.alloc (.cells #[.string ⟨#[]⟩, .string ⟨nm.toArray⟩, .int .i64 n, .slice A ln c] 24) = w0 at *
  cases hr : readE (envV env) s nm with
  | error er =>
    rw [hr] at cR
    clear hr
    go_wp2_with fail
    refine cR.mono ?_
    rintro e w1 ⟨he, hb1⟩
    obtain rfl : e = .panicked [faultC er] := he
    go_wp2_with fail
    exact ⟨rfl, rfl, hal.trans (hb1.mono hal.size)⟩
  | ok k =>
    rw [hr] at cR
    clear hr
    go_wp2_with fail
    refine cR.mono ?_
    rintro e w1 ⟨he, hb1⟩
    obtain rfl : e = .returned (.int .i64 k) := he
    go_wp2_with fail
    go_ret
    exact ⟨rfl, hal.trans (hb1.mono hal.size)⟩

set_option maxRecDepth 100000 in
set_option maxHeartbeats 2000000 in
theorem val_leaf (W0 : World) (B : Nat) (D : List (List UInt8)) (env : EnvI) (nm : List UInt8) (n : Int) (r : rngT D (.leaf nm n)) : ValAt W0 B D env (.leaf nm n) := by
  intro A c s w hG hB hW _
  change Calls _ _ #[.pointer (some ⟨B, 0, none⟩), .agg #[.string ⟨#[]⟩, .string ⟨nm.toArray⟩, .int .i64 n, .slice A 0 c]] _ _
  have hbW := below_W3v w B [] nm n A 0 c
  have hF := Fr.new w B [] nm n A 0 c
  have hW3 := hW.below hbW
  have hK3 := hW.kept_below hbW
  obtain ⟨w3, hw3⟩ : ∃ w3, W3v w B [] nm n A 0 c = w3 := ⟨_, rfl⟩
  have HW3 := hid hw3
  rw [hw3] at hF hW3 hK3
  have c0 := hF.c0; have c1 := hF.c1; have c1a := hF.c1a; have c1b := hF.c1b; have c1c := hF.c1c
  clear hw3 hbW hW hG hF
  by_cases h0 : nm = []
  · subst h0
    have HE : Hid (evalT (envV env) (.leaf [] n) s = .ok (n, s)) := hid rfl
    have cL := fun W => leafNum_any B n A 0 c W
    go_enter Tryz.func27, Tryz.ntmps27
    go_wp2_with fail
    refine (cL _).mono ?_
    rintro e w4 ⟨rfl, hb4⟩
    rw [show ((w.alloc (.cells #[.pointer (some ⟨B, 0, none⟩)] 56)).alloc (.cells #[.string ⟨#[]⟩, .string ⟨#[]⟩, .int .i64 n, .slice A 0 c] 24)).alloc (.cells #[.slice A 0 c] 22) = w3 from HW3.out] at hb4
    have HK := hid (And.intro (hK3.trans (hW3.kept_below hb4)) (hW3.below hb4))
    clear hb4 hK3 hW3 cL
    go_wp2_with fail
    go_ret
    exact (by rw [HE.out]; exact ⟨HK.out.1, rfl, HK.out.2⟩)
  · have HE : Hid (evalT (envV env) (.leaf nm n) s = thenE (readE (envV env) s nm) fun n => .ok (n, s)) := hid (by rw [evalT, if_neg h0])
    have cL := leafName_any nm h0 W0.heap.size B D env s n A 0 c w3 hW3 (r.2 h0)
    cases hr : readE (envV env) s nm with
    | error er =>
      rw [hr] at cL HE
      have HP : Hid (evalT (envV env) (.leaf nm n) s = .error er) := hid HE.out
      clear hr HE r
      go_enter Tryz.func27, Tryz.ntmps27
      go_wp2_with fail
      rw [show ((w.alloc (.cells #[.pointer (some ⟨B, 0, none⟩)] 56)).alloc (.cells #[.string ⟨#[]⟩, .string ⟨nm.toArray⟩, .int .i64 n, .slice A 0 c] 24)).alloc (.cells #[.slice A 0 c] 22) = w3 from HW3.out]
      refine cL.mono ?_
      rintro e w4 ⟨he, hb4⟩
      obtain rfl : e = .panicked [faultC er] := he
      have HK := hid (hK3.trans (hW3.kept_below hb4))
      clear hb4 hK3 hW3 cL
      go_wp2_with fail
      exact ⟨rfl, by rw [HP.out]; exact ⟨HK.out, rfl⟩⟩
    | ok k =>
      rw [hr] at cL HE
      have HP : Hid (evalT (envV env) (.leaf nm n) s = .ok (k, s)) := hid HE.out
      clear hr HE r
      go_enter Tryz.func27, Tryz.ntmps27
      go_wp2_with fail
      rw [show ((w.alloc (.cells #[.pointer (some ⟨B, 0, none⟩)] 56)).alloc (.cells #[.string ⟨#[]⟩, .string ⟨nm.toArray⟩, .int .i64 n, .slice A 0 c] 24)).alloc (.cells #[.slice A 0 c] 22) = w3 from HW3.out]
      refine cL.mono ?_
      rintro e w4 ⟨he, hb4⟩
      obtain rfl : e = .returned (.int .i64 k) := he
      have HK := hid (And.intro (hK3.trans (hW3.kept_below hb4)) (hW3.below hb4))
      clear hb4 hK3 hW3 cL
      go_wp2_with fail
      go_ret
      exact (by rw [HP.out]; exact ⟨HK.out.1, rfl, HK.out.2⟩)

/-- Every tree that may be. -/
theorem isVar_name {t : T} (h : isVar t = true) : nameT t ≠ [] := by
  cases t <;> simp [isVar, nameT] at h ⊢
  exact h
theorem var_in {D : List (List UInt8)} {t : T} (h : isVar t = true) (r : rngT D t) : nameT t ∈ D := by
  cases t with
  | leaf nm n => exact r.2 (isVar_name h)
  | one op a => cases h
  | two op a b => cases h
  | three op a b c => cases h
theorem one_ops {op : List UInt8} (h : known.contains op = true) (hl : (levL op == 15 || levL op == 16) = true) : op = [33] ∨ op = [126] ∨ op = [110, 101, 103] ∨ op = [112, 114, 101, 43, 43] ∨ op = [112, 114, 101, 45, 45] ∨ op = [112, 111, 115, 116, 43, 43] ∨ op = [112, 111, 115, 116, 45, 45] := by
  have : ∀ m ∈ known, (levL m == 15 || levL m == 16) = true → m = [33] ∨ m = [126] ∨ m = [110, 101, 103] ∨ m = [112, 114, 101, 43, 43] ∨ m = [112, 114, 101, 45, 45] ∨ m = [112, 111, 115, 116, 43, 43] ∨ m = [112, 111, 115, 116, 45, 45] := by decide +kernel
  exact this op (by simpa using h) hl
theorem two_ops {op : List UInt8} (h : known.contains op = true) (hl : twoLev (levL op) = true) : op = [38, 38] ∨ op = [124, 124] ∨ (levL op = 2 ∧ op = [61]) ∨ (levL op = 2 ∧ op ∈ [[42, 61], [47, 61], [37, 61], [43, 61], [45, 61], [60, 60, 61], [62, 62, 61], [38, 61], [94, 61], [124, 61]]) ∨ op ∈ joinOps := by
  have : ∀ m ∈ known, twoLev (levL m) = true → m = [38, 38] ∨ m = [124, 124] ∨ (levL m = 2 ∧ m = [61]) ∨ (levL m = 2 ∧ m ∈ [[42, 61], [47, 61], [37, 61], [43, 61], [45, 61], [60, 60, 61], [62, 62, 61], [38, 61], [94, 61], [124, 61]]) ∨ m ∈ joinOps := by decide +kernel
  exact this op (by simpa using h) hl
theorem val_all (W0 : World) (B : Nat) (D : List (List UInt8)) (env : EnvI) : ∀ t : T, fineT true t = true → rngT D t → ValAt W0 B D env t
  | .leaf nm n, _, r => val_leaf W0 B D env nm n r
  | .one op a, h, r => by
    simp only [fineT, nodeB, Bool.and_eq_true] at h
    obtain ⟨⟨⟨⟨h1, h2⟩, h3⟩, -⟩, h5⟩ := h
    have ih := val_all W0 B D env a h5 r
    rcases one_ops h1 h2 with rfl | rfl | rfl | rfl | rfl | rfl | rfl
    · exact val_not W0 B D env a ih r
    · exact val_com W0 B D env a ih r
    · exact val_neg W0 B D env a ih r
    · exact val_incp W0 B D env a ih r (var_in (by simpa [stepsB] using h3) r)
    · exact val_decp W0 B D env a ih r (var_in (by simpa [stepsB] using h3) r)
    · exact val_pinc W0 B D env a ih r (var_in (by simpa [stepsB] using h3) r)
    · exact val_pdec W0 B D env a ih r (var_in (by simpa [stepsB] using h3) r)
  | .two op a b, h, r => by
    simp only [fineT, nodeB, Bool.and_eq_true] at h
    obtain ⟨⟨⟨⟨⟨⟨h1, h2⟩, -⟩, h4⟩, -⟩, h5⟩, h6⟩ := h
    have iha := val_all W0 B D env a h5 r.1
    have ihb := val_all W0 B D env b h6 r.2
    have hv : levL op = 2 → nameT a ∈ D := fun e => var_in (by rw [e] at h4; simpa using h4) r.1
    rcases two_ops h1 h2 with rfl | rfl | ⟨hl, rfl⟩ | ⟨hl, h⟩ | h
    · exact val_and W0 B D env a b iha r.1 ihb r.2
    · exact val_or W0 B D env a b iha r.1 ihb r.2
    · exact val_set W0 B D env a b iha r.1 ihb r.2 (hv hl)
    · simp only [List.mem_cons, List.not_mem_nil, or_false] at h
      rcases h with rfl | rfl | rfl | rfl | rfl | rfl | rfl | rfl | rfl | rfl
      · exact val_set_mul W0 B D env a b iha r.1 ihb r.2 (hv hl)
      · exact val_set_quo W0 B D env a b iha r.1 ihb r.2 (hv hl)
      · exact val_set_rem W0 B D env a b iha r.1 ihb r.2 (hv hl)
      · exact val_set_add W0 B D env a b iha r.1 ihb r.2 (hv hl)
      · exact val_set_sub W0 B D env a b iha r.1 ihb r.2 (hv hl)
      · exact val_set_shl W0 B D env a b iha r.1 ihb r.2 (hv hl)
      · exact val_set_shr W0 B D env a b iha r.1 ihb r.2 (hv hl)
      · exact val_set_and W0 B D env a b iha r.1 ihb r.2 (hv hl)
      · exact val_set_xor W0 B D env a b iha r.1 ihb r.2 (hv hl)
      · exact val_set_or W0 B D env a b iha r.1 ihb r.2 (hv hl)
    · exact val_bin W0 B D env op h a b iha r.1 ihb r.2
  | .three op a b c, h, r => by
    simp only [fineT, nodeB, Bool.and_eq_true] at h
    obtain ⟨⟨⟨h1, h5⟩, h6⟩, h7⟩ := h
    obtain rfl : op = [63, 58] := by simpa using h1
    exact val_cho W0 B D env a b c (val_all W0 B D env a h5 r.1) r.1 (val_all W0 B D env b h6 r.2.1) r.2.1 (val_all W0 B D env c h7 r.2.2) r.2.2
end Go.Proofs.YthgmilllinbcjaaGreatDoor
