/- Contracts of the reference's Name, In, single, all, Check at any expression in memory; what single lets through, formed does. No conditions but sizes. Contracts of the reference's single, all, Check at any expression in memory. No conditions. Contracts of the reference's all and Check at any expression in memory; what they let through, arith's formed does. No conditions. What the reference's single lets through, arith's formed does. No conditions. -/
import Derived.Test.YthgmilllinbcjaaGreatDoorZGenS
namespace Go.Proofs.YthgmilllinbcjaaGreatDoor
open Go.RowKit
open Go.Lib (hid)

def rletB (c : Int) : Bool := letterB c || decide (c = 95)
set_option maxHeartbeats 1000000 in
theorem rletter_any (c : Int) (w : World) : Calls Tryz.prog 107 #[.int .u8 c] w fun e w' => e = .returned (.bool (rletB c)) ∧ w = w' := by
  by_cases h1 : 97 ≤ c <;> by_cases h2 : c ≤ 122 <;> by_cases h3 : 65 ≤ c <;> by_cases h4 : c ≤ 90 <;> by_cases h5 : c = 95
  all_goals
    first
    | (exfalso; omega)
    | ((first | have H := Lib.hid (show rletB c = true by (unfold rletB letterB; simp; omega)) | have H := Lib.hid (show rletB c = false by (unfold rletB letterB; simp; omega)))
       try have d1 : decide (97 ≤ c) = false := decide_eq_false h1
       try have d2 : decide (c ≤ 122) = false := decide_eq_false h2
       try have d3 : decide (65 ≤ c) = false := decide_eq_false h3
       try have d4 : decide (c ≤ 90) = false := decide_eq_false h4
       try have d5 : (c == 95) = false := by simpa using h5
       try have d6 : (c == 95) = true := by simpa using h5
       clear h5
       go_enter Tryz.func107, Tryz.ntmps107
       go_wp2
       go_ret
       exact ⟨by rw [H.out]; rfl, rfl⟩)
theorem rdigit_any (c : Int) (w : World) : Calls Tryz.prog 108 #[.int .u8 c] w fun e w' => e = .returned (.bool (digitB c)) ∧ w = w' := by
  have hb : digitB c = (decide (48 ≤ c) && decide (c ≤ 57)) := by unfold digitB; simp
  by_cases h1 : 48 ≤ c <;> by_cases h2 : c ≤ 57
  all_goals
    have H := Lib.hid hb
    clear hb
    go_enter Tryz.func108, Tryz.ntmps108
    go_wp2
    go_ret
    exact ⟨by rw [H.out]; simp [h1, h2], rfl⟩

theorem nameAt_r (k : Nat) (c : UInt8) : nameAt k c = (rletB c.toNat || (!decide ((k : Int) = 0) && digitB c.toNat)) := by
  rw [nameAt_eq]
  unfold rletB
  have : decide (0 < (k : Int)) = !decide ((k : Int) = 0) := by rw [Bool.eq_iff_iff]; simp; omega
  rw [this]
  cases letterB c.toNat <;> cases decide ((c.toNat : Int) = 95) <;> rfl

set_option maxHeartbeats 2000000 in
theorem rName_any (s : ByteArray) (w : World) (hs : s.size ≤ maxLen) : Calls Tryz.prog 84 #[.string s] w fun e w' => e = .returned (.bool (nameL s.data.toList)) ∧ w = w' := by
  unfold maxLen at hs
  have HN : Hid (nameL s.data.toList = (!s.data.toList.isEmpty && decide (s.data.toList.length ≤ 64) && everyL nameAt 0 s.data.toList)) := hid rfl
  go_enter Tryz.func84, Tryz.ntmps84
  go_wp2
  go_loop [3] (fun i => ∃ k : Nat, k ≤ s.size ∧ i = .int .i64 k ∧ Hid (everyL nameAt 0 s.data.toList = everyL nameAt k (s.data.toList.drop k))) (fun i => s.size - (intOf i).toNat)
  case atStart => exact ⟨0, Nat.zero_le _, rfl, hid rfl⟩
  case round =>
    obtain ⟨k, hk, rfl, HE⟩ := hrel
    by_cases hlt : k < s.size
    · have hd := everyL_drop nameAt s.data.toList k (by rw [len_toList]; exact hlt)
      rw [getElem_toList s k hlt, nameAt_r] at hd
      have HD := hid hd
      clear hd
      have c1 := fun W => rletter_any (s[k].toNat : Int) W
      have c2 := fun W => rdigit_any (s[k].toNat : Int) W
      generalize rletB (s[k].toNat : Int) = b1 at *
      generalize digitB (s[k].toNat : Int) = b2 at *
      cases b1
      · by_cases hk0 : k = 0
        · have g0 : ((k : Int) == 0) = true := by simp; omega
          have HF : Hid (nameL s.data.toList = false) := hid (by rw [HN.out, HE.out, HD.out, hk0]; simp)
          clear HN HE HD hk0
          go_wp2_with (first | (go_at_call 107; (with_reducible refine (c1 _).mono ?_); rintro e w' ⟨rfl, rfl⟩) | (go_at_call 108; (with_reducible refine (c2 _).mono ?_); rintro e w' ⟨rfl, rfl⟩))
          go_ret
          exact ⟨by rw [HF.out]; rfl, rfl⟩
        · have g0 : ((k : Int) == 0) = false := by simp; omega
          have hk1 : decide ((k : Int) = 0) = false := decide_eq_false (by omega)
          cases b2
          · have HF : Hid (nameL s.data.toList = false) := hid (by rw [HN.out, HE.out, HD.out, hk1]; simp)
            clear HN HE HD hk0 hk1
            go_wp2_with (first | (go_at_call 107; (with_reducible refine (c1 _).mono ?_); rintro e w' ⟨rfl, rfl⟩) | (go_at_call 108; (with_reducible refine (c2 _).mono ?_); rintro e w' ⟨rfl, rfl⟩))
            go_ret
            exact ⟨by rw [HF.out]; rfl, rfl⟩
          · have HF : Hid (everyL nameAt 0 s.data.toList = everyL nameAt (k + 1) (s.data.toList.drop (k + 1))) := hid (by rw [HE.out, HD.out, hk1]; rfl)
            clear HE HD hk0 hk1
            go_wp2_with (first | (go_at_call 107; (with_reducible refine (c1 _).mono ?_); rintro e w' ⟨rfl, rfl⟩) | (go_at_call 108; (with_reducible refine (c2 _).mono ?_); rintro e w' ⟨rfl, rfl⟩))
            go_round
            case rel => exact ⟨k + 1, by omega, by go_num, HF⟩
            case measure => simp [intOf]; omega
      · have HF : Hid (everyL nameAt 0 s.data.toList = everyL nameAt (k + 1) (s.data.toList.drop (k + 1))) := hid (by rw [HE.out, HD.out]; rfl)
        clear HE HD
        go_wp2_with (first | (go_at_call 107; (with_reducible refine (c1 _).mono ?_); rintro e w' ⟨rfl, rfl⟩) | (go_at_call 108; (with_reducible refine (c2 _).mono ?_); rintro e w' ⟨rfl, rfl⟩))
        go_round
        case rel => exact ⟨k + 1, by omega, by go_num, HF⟩
        case measure => simp [intOf]; omega
    · have HF : Hid (nameL s.data.toList = (decide (0 < s.size) && decide (s.size ≤ 64))) := hid (by
        rw [HN.out, HE.out, List.drop_of_length_le (by rw [len_toList]; omega), len_toList]
        have : s.data.toList.isEmpty = !decide (0 < s.size) := by
          rw [← len_toList]
          cases s.data.toList <;> rfl
        rw [this]
        cases decide (0 < s.size) <;> cases decide (s.size ≤ 64) <;> rfl)
      clear HE HN
      by_cases h1 : 0 < s.size
      · by_cases h2 : s.size ≤ 64
        · have HF : Hid (nameL s.data.toList = true) := hid (by rw [HF.out, decide_eq_true h1, decide_eq_true h2]; rfl)
          have g1 : (0 : Int) < (s.size : Int) := by omega
          have g2 : (s.size : Int) ≤ 64 := by omega
          clear h1 h2
          go_wp2
          go_ret
          exact ⟨by rw [HF.out]; rfl, rfl⟩
        · have HF : Hid (nameL s.data.toList = false) := hid (by rw [HF.out, decide_eq_true h1, decide_eq_false h2]; rfl)
          have g1 : (0 : Int) < (s.size : Int) := by omega
          have g2 : decide ((s.size : Int) ≤ 64) = false := decide_eq_false (by omega)
          clear h1 h2
          go_wp2
          go_ret
          exact ⟨by rw [HF.out]; rfl, rfl⟩
      · have HF : Hid (nameL s.data.toList = false) := hid (by rw [HF.out, decide_eq_false h1]; rfl)
        have hz : s.size = 0 := by omega
        clear h1 hlt hk
        go_wp2
        go_ret
        exact ⟨by rw [HF.out]; rfl, rfl⟩

def inL (ms : List (List UInt8)) (x : List UInt8) : Bool := ms.contains x
theorem inL_drop (ms : List (List UInt8)) (x : List UInt8) (k : Nat) (h : k < ms.length) : inL (ms.drop k) x = (x == ms[k] || inL (ms.drop (k + 1)) x) := by
  unfold inL
  rw [List.drop_eq_getElem_cons h, List.contains_cons]

set_option maxHeartbeats 1000000 in
theorem In_any (ms : List (List UInt8)) (b c : Nat) (x : List UInt8) (w : World) (hm : ms.length ≤ 64) (hc : ∀ j (h : j < ms.length), w.cell? ⟨b, j, none⟩ = some (.string ⟨ms[j].toArray⟩)) :
    Calls Tryz.prog 57 #[.slice (some ⟨b, 0, none⟩) ms.length c, .string ⟨x.toArray⟩] w fun e w' => e = .returned (.bool (inL ms x)) ∧ w = w' := by
  go_enter Tryz.func57, Tryz.ntmps57
  go_wp2
  go_loop [5] (fun i => ∃ k : Nat, k ≤ ms.length ∧ i = .int .i64 k ∧ Hid (inL ms x = inL (ms.drop k) x)) (fun i => ms.length - (intOf i).toNat)
  case atStart => exact ⟨0, Nat.zero_le _, rfl, hid rfl⟩
  case round =>
    obtain ⟨k, hk, rfl, HE⟩ := hrel
    by_cases hlt : k < ms.length
    · have HD : Hid (inL ms x = (x == ms[k] || inL (ms.drop (k + 1)) x)) := hid (by rw [HE.out, inL_drop ms x k hlt])
      have h0 := hc k hlt
      have hg1 : (k : Int) < (ms.length : Int) := by omega
      have hg0 : (0 : Int) ≤ (k : Int) := by omega
      generalize ms[k] = mk at *
      cases hv : (x == mk)
      · have g1 : (mk == x) = false := by rw [beq_eq_false_iff_ne] at hv ⊢; exact hv.symm
        have HN : Hid (inL ms x = inL (ms.drop (k + 1)) x) := hid (by rw [HD.out, hv]; rfl)
        clear hc HE HD hv
        go_wp2
        go_round
        case rel => exact ⟨k + 1, by omega, by go_num, HN⟩
        case measure => simp [intOf]; omega
      · have g1 : (mk == x) = true := by rw [beq_iff_eq] at hv ⊢; exact hv.symm
        have HN : Hid (inL ms x = true) := hid (by rw [HD.out, hv]; rfl)
        clear hc HE HD hv
        go_wp2
        go_ret
        exact ⟨by rw [HN.out]; rfl, rfl⟩
    · have hke : k = ms.length := by omega
      subst hke
      have HN : Hid (inL ms x = false) := hid (by rw [HE.out, List.drop_length]; rfl)
      have hg1 : decide ((ms.length : Int) < (ms.length : Int)) = false := by simp
      clear HE hc
      go_wp2
      go_ret
      exact ⟨by rw [HN.out]; rfl, rfl⟩
theorem In_new (ms : List (List UInt8)) (hm : ms.length ≤ 64) (x : List UInt8) (w : World) :
    Calls Tryz.prog 57 #[.slice (some ⟨w.heap.size, 0, none⟩) ms.length ms.length, .string ⟨x.toArray⟩] (w.alloc (.cells (ms.map fun m => Value.string ⟨m.toArray⟩).toArray 9)) fun e w' => e = .returned (.bool (inL ms x)) ∧ w.alloc (.cells (ms.map fun m => Value.string ⟨m.toArray⟩).toArray 9) = w' :=
  In_any ms w.heap.size ms.length x _ hm (fun j hj => by
    rw [cell_heap (heap_alloc_new w _)]
    simp [hj])

theorem rAssigns_any (op : List UInt8) (w : World) : Calls Tryz.prog 86 #[.string ⟨op.toArray⟩] w fun e w' => e = .returned (.bool (inL [[61], [42, 61], [47, 61], [37, 61], [43, 61], [45, 61], [60, 60, 61], [62, 62, 61], [38, 61], [94, 61], [124, 61]] op)) ∧ Below w.heap.size w w' := by
  have cI := In_new [[61], [42, 61], [47, 61], [37, 61], [43, 61], [45, 61], [60, 60, 61], [62, 62, 61], [38, 61], [94, 61], [124, 61]] (by decide) op w
  go_enter Tryz.func86, Tryz.ntmps86
  go_wp2_with fail
  refine cI.mono ?_
  rintro e w1 ⟨rfl, rfl⟩
  go_wp2_with fail
  go_ret
  exact ⟨rfl, (Below.refl _ _).alloc (Nat.le_refl _) _⟩

set_option maxHeartbeats 1000000 in
theorem rvariable_any (op nm : List UInt8) (nn : Int) (A : Option Addr) (ln c : Nat) (w : World) :
    Calls Tryz.prog 85 #[.agg #[.string ⟨op.toArray⟩, .string ⟨nm.toArray⟩, .int .i64 nn, .slice A ln c]] w fun e w' => e = .returned (.bool (op == [] && !(nm == []))) ∧ Below w.heap.size w w' := by
  have hV : Var4 (w.alloc (.cells #[.string ⟨op.toArray⟩, .string ⟨nm.toArray⟩, .int .i64 nn, .slice A ln c] 24)) w.heap.size (.string ⟨op.toArray⟩) (.string ⟨nm.toArray⟩) (.int .i64 nn) (.slice A ln c) := heap_alloc_new _ _
  have hb : Below w.heap.size w (w.alloc (.cells #[.string ⟨op.toArray⟩, .string ⟨nm.toArray⟩, .int .i64 nn, .slice A ln c] 24)) := (Below.refl _ _).alloc (Nat.le_refl _) _
  have v0 := hV.a0; have v1 := hV.a1
  cases g1 : (op == [])
  · go_enter Tryz.func85, Tryz.ntmps85
    go_wp2
    go_ret
    exact ⟨rfl, hb⟩
  · cases g2 : (nm == [])
    · go_enter Tryz.func85, Tryz.ntmps85
      go_wp2
      go_ret
      exact ⟨rfl, hb⟩
    · go_enter Tryz.func85, Tryz.ntmps85
      go_wp2
      go_ret
      exact ⟨rfl, hb⟩
end Go.Proofs.YthgmilllinbcjaaGreatDoor
namespace Go.Proofs.YthgmilllinbcjaaGreatDoor
open Go.RowKit
open Go.Lib (hid)

def sgA : List (List UInt8) := [[33], [126], [110, 101, 103]]
def sgB : List (List UInt8) := [[112, 114, 101, 43, 43], [112, 114, 101, 45, 45], [112, 111, 115, 116, 43, 43], [112, 111, 115, 116, 45, 45]]
def sgC : List (List UInt8) := [[61], [42, 61], [47, 61], [37, 61], [43, 61], [45, 61], [60, 60, 61], [62, 62, 61], [38, 61], [94, 61], [124, 61]]
def sgD : List (List UInt8) := [[42], [47], [37], [43], [45], [60, 60], [62, 62], [60], [60, 61], [62], [62, 61], [61, 61], [33, 61], [38], [94], [124], [38, 38], [124, 124], [44], [42, 42]]
theorem var0_eq (t : G) (h : 0 < (gKids t).length) : var0 t = varB (gKids t)[0] := by
  unfold var0
  split
  · rename_i he
    simp [he] at h
  · rename_i he
    simp [he]
/-- The reference's: may it be, but for its kids? -/
def singB (t : G) : Bool :=
  if gOp t == [] then (gLen t == 0 && ((gNm t == [] && decide (0 ≤ gN t)) || (gN t == 0 && nameL (gNm t))))
  else if gNm t == [] then
    (if gN t == 0 then
      (if inL sgA (gOp t) then gLen t == 1
      else if inL sgB (gOp t) then gLen t == 1 && var0 t
      else if gOp t == [63, 58] then gLen t == 3
      else if inL sgC (gOp t) then gLen t == 2 && var0 t
      else gLen t == 2 && inL sgD (gOp t))
    else false)
  else false

set_option maxHeartbeats 8000000 in
theorem single_any (t : G) (hl : (gNm t).length ≤ 9223372036854775807) (A : Option Addr) (c : Nat) (w : World) (hT : GAt w A c t) :
    Calls Tryz.prog 60 #[.agg #[g0 t, g1 t, g2 t, .slice A (gLen t) c]] w fun e w' => e = .returned (.bool (singB t)) ∧ Below w.heap.size w w' := by
  have HS : Hid (singB t = if gOp t == [] then (gLen t == 0 && ((gNm t == [] && decide (0 ≤ gN t)) || (gN t == 0 && nameL (gNm t)))) else if gNm t == [] then (if gN t == 0 then (if inL sgA (gOp t) then gLen t == 1 else if inL sgB (gOp t) then gLen t == 1 && var0 t else if gOp t == [63, 58] then gLen t == 3 else if inL sgC (gOp t) then gLen t == 2 && var0 t else gLen t == 2 && inL sgD (gOp t)) else false) else false) := hid rfl
  have hX : Var4 (w.alloc (.cells #[g0 t, g1 t, g2 t, .slice A (gLen t) c] 24)) w.heap.size (g0 t) (g1 t) (g2 t) (.slice A (gLen t) c) := heap_alloc_new _ _
  have hal : Below w.heap.size w (w.alloc (.cells #[g0 t, g1 t, g2 t, .slice A (gLen t) c] 24)) := (Below.refl _ _).alloc (Nat.le_refl _) _
  have hT0 := hT.later hal
  have cN := fun W => rName_any ⟨(gNm t).toArray⟩ W (by rw [size_list]; unfold maxLen; omega)
  rw [show (⟨(gNm t).toArray⟩ : ByteArray).data.toList = gNm t from by simp] at cN
  have x0 := hX.a0; have x1 := hX.a1; have x2 := hX.a2; have x3 := hX.a3
  clear hT hl
  cases e0 : (gOp t == [])
  rotate_left
  · rw [e0, if_pos rfl] at HS
    generalize nameL (gNm t) = nb at *
    by_cases h1 : gLen t = 0 <;> by_cases h2 : 0 ≤ gN t <;> cases e1 : (gNm t == []) <;> cases e2 : (gN t == 0)
    all_goals
      rw [e1, e2] at HS
      first
      | (have k1 : ((gLen t : Int) == 0) = true := by simp; omega
         have HS1 : Hid ((gLen t == 0) = true) := hid (by simpa using h1))
      | (have k1 : ((gLen t : Int) == 0) = false := by simp; omega
         have HS1 : Hid ((gLen t == 0) = false) := hid (by simpa using h1))
      first
      | (have k2 : decide (0 ≤ gN t) = true := decide_eq_true h2
         rw [k2] at HS)
      | (have k2 : decide (0 ≤ gN t) = false := decide_eq_false h2
         rw [k2] at HS)
      have HS := hid (HS.out.trans (by rw [HS1.out]))
      clear HS1 h1
      go_enter Tryz.func60, Tryz.ntmps60
      generalize hw0 : w.alloc (.cells #[g0 t, g1 t, g2 t, .slice A (gLen t) c] 24) = w0 at *
      go_wp2_with (go_at_call 84; (with_reducible refine (cN _).mono ?_); rintro e w' ⟨rfl, rfl⟩)
      go_ret
      exact ⟨by rw [HS.out]; first | rfl | simp, hal⟩
  rw [e0, if_neg (by decide)] at HS
  clear cN
  cases e1 : (gNm t == [])
  · rw [e1, if_neg (by decide)] at HS
    go_enter Tryz.func60, Tryz.ntmps60
    generalize hw0 : w.alloc (.cells #[g0 t, g1 t, g2 t, .slice A (gLen t) c] 24) = w0 at *
    go_wp2_with fail
    go_ret
    exact ⟨by rw [HS.out]; rfl, hal⟩
  rw [e1, if_pos rfl] at HS
  cases e2 : (gN t == 0)
  · rw [e2, if_neg (by decide)] at HS
    go_enter Tryz.func60, Tryz.ntmps60
    generalize hw0 : w.alloc (.cells #[g0 t, g1 t, g2 t, .slice A (gLen t) c] 24) = w0 at *
    go_wp2_with fail
    go_ret
    exact ⟨by rw [HS.out]; rfl, hal⟩
  rw [e2, if_pos rfl] at HS
  obtain ⟨op, hop⟩ : ∃ o, gOp t = o := ⟨_, rfl⟩
  have hg0 : g0 t = .string ⟨op.toArray⟩ := by simp only [g0, hop]
  rw [hop] at HS e0
  have cAs := fun W => rAssigns_any op W
  rw [hg0] at x0 hX hal hT0 ⊢
  clear hop hg0
  go_enter Tryz.func60, Tryz.ntmps60
  go_wp2_with fail
  have hz : (w.alloc (.cells #[.string ⟨op.toArray⟩, g1 t, g2 t, .slice A (gLen t) c] 24)).heap.size = w.heap.size + 1 := World.size_alloc ..
  rw [← hz]
  generalize w.alloc (.cells #[.string ⟨op.toArray⟩, g1 t, g2 t, .slice A (gLen t) c] 24) = w0 at *
  have cI := In_new [[33], [126], [110, 101, 103]] (by decide) op w0
  refine cI.mono ?_
  rintro e w1 ⟨rfl, hw9⟩
  have hals : Below w0.heap.size w0 w1 := by rw [← hw9]; exact (Below.refl _ _).alloc (Nat.le_refl _) _
  have hX := hX.below hals
  have hT0 := hT0.later hals
  have hal := hal.trans (hals.mono hal.size)
  clear cI hals hw9
  have x0 := hX.a0; have x1 := hX.a1; have x2 := hX.a2; have x3 := hX.a3
  obtain ⟨b, hb⟩ : ∃ b, inL sgA op = b := ⟨_, rfl⟩
  rw [show inL [[33], [126], [110, 101, 103]] op = b from hb]
  rw [hb] at HS
  clear hb
  cases b
  rotate_left
  · rw [if_pos rfl] at HS
    by_cases hn : gLen t = 1
    · have gl : ((gLen t : Int) == 1) = true := by simp; omega
      have HG : Hid (singB t = true) := hid (by rw [HS.out]; simpa using hn)
      clear HS hn hT0
      go_wp2_with fail
      go_ret
      exact ⟨by rw [HG.out]; rfl, hal⟩
    · have gl : ((gLen t : Int) == 1) = false := by simp; omega
      have HG : Hid (singB t = false) := hid (by rw [HS.out]; simpa using hn)
      clear HS hn hT0
      go_wp2_with fail
      go_ret
      exact ⟨by rw [HG.out]; rfl, hal⟩
  rw [if_neg (by decide)] at HS
  have y0 := (hX.below (((Below.refl w1.heap.size w1).alloc (Nat.le_refl _) (.cells #[.string ⟨#[112, 114, 101, 43, 43]⟩, .string ⟨#[112, 114, 101, 45, 45]⟩, .string ⟨#[112, 111, 115, 116, 43, 43]⟩, .string ⟨#[112, 111, 115, 116, 45, 45]⟩] 9)))).a0
  go_wp2_with fail
  have cI := In_new [[112, 114, 101, 43, 43], [112, 114, 101, 45, 45], [112, 111, 115, 116, 43, 43], [112, 111, 115, 116, 45, 45]] (by decide) op w1
  refine cI.mono ?_
  rintro e w2 ⟨rfl, hw9⟩
  have hals : Below w1.heap.size w1 w2 := by rw [← hw9]; exact (Below.refl _ _).alloc (Nat.le_refl _) _
  have hX := hX.below hals
  have hT0 := hT0.later hals
  have hal := hal.trans (hals.mono hal.size)
  clear cI hals hw9 y0
  have x0 := hX.a0; have x1 := hX.a1; have x2 := hX.a2; have x3 := hX.a3
  obtain ⟨b, hb⟩ : ∃ b, inL sgB op = b := ⟨_, rfl⟩
  rw [show inL [[112, 114, 101, 43, 43], [112, 114, 101, 45, 45], [112, 111, 115, 116, 43, 43], [112, 111, 115, 116, 45, 45]] op = b from hb]
  rw [hb] at HS
  clear hb
  cases b
  rotate_left
  · rw [if_pos rfl] at HS
    clear cAs e0 e1 e2
    by_cases hl2 : gLen t = 1
    · have gl : ((gLen t : Int) == 1) = true := by simp; omega
      have hpos : 0 < (gKids t).length := by show 0 < gLen t; omega
      obtain ⟨g, o, A1, k1, rfl, d0, d1, d2, d3, -⟩ := hT0.kid 0 hpos
      have HV0 := hid (var0_eq t hpos)
      have cV := fun W => rvariable_any (gOp (gKids t)[0]) (gNm (gKids t)[0]) (gN (gKids t)[0]) A1 (gLen (gKids t)[0]) k1 W
      have hl0 : (0 : Int) < (gLen t : Int) := by omega
      simp only [Nat.zero_mul, Nat.add_zero] at d0 d1 d2 d3
      have HVB : Hid ((gOp (gKids t)[0] == [] && !(gNm (gKids t)[0] == [])) = varB (gKids t)[0]) := hid rfl
      rw [HVB.out] at cV
      have HG : Hid (singB t = var0 t) := hid (by rw [HS.out]; simp [hl2])
      generalize (gKids t)[0] = k0 at *
      generalize varB k0 = vb at *
      clear HVB HS hpos hT0 hl2
      go_wp2_with (go_at_call 85; (with_reducible refine (cV _).mono ?_); rintro e w8 ⟨rfl, hbv⟩)
      go_ret
      exact ⟨by rw [HG.out, HV0.out]; rfl, hal.trans (hbv.mono hal.size)⟩
    · have gl : ((gLen t : Int) == 1) = false := by simp; omega
      have HG : Hid (singB t = false) := hid (by rw [HS.out]; simp [hl2])
      clear HS hl2 hT0
      go_wp2_with fail
      go_ret
      exact ⟨by rw [HG.out]; rfl, hal⟩
  rw [if_neg (by decide)] at HS
  cases e3 : (op == [63, 58])
  rotate_left
  · rw [e3, if_pos rfl] at HS
    by_cases hn : gLen t = 3
    · have gl : ((gLen t : Int) == 3) = true := by simp; omega
      have HG : Hid (singB t = true) := hid (by rw [HS.out]; simpa using hn)
      clear HS hn hT0
      go_wp2_with fail
      go_ret
      exact ⟨by rw [HG.out]; rfl, hal⟩
    · have gl : ((gLen t : Int) == 3) = false := by simp; omega
      have HG : Hid (singB t = false) := hid (by rw [HS.out]; simpa using hn)
      clear HS hn hT0
      go_wp2_with fail
      go_ret
      exact ⟨by rw [HG.out]; rfl, hal⟩
  rw [e3, if_neg (by decide)] at HS
  obtain ⟨b, hb⟩ : ∃ b, inL sgC op = b := ⟨_, rfl⟩
  rw [show inL [[61], [42, 61], [47, 61], [37, 61], [43, 61], [45, 61], [60, 60, 61], [62, 62, 61], [38, 61], [94, 61], [124, 61]] op = b from hb] at cAs
  rw [hb] at HS
  clear hb
  cases b
  rotate_left
  · rw [if_pos rfl] at HS
    clear e0 e1 e2
    by_cases hl : gLen t = 2
    · have gl : ((gLen t : Int) == 2) = true := by simp; omega
      have hpos : 0 < (gKids t).length := by show 0 < gLen t; omega
      have HV0 := hid (var0_eq t hpos)
      have cV := fun A1 k1 W => rvariable_any (gOp (gKids t)[0]) (gNm (gKids t)[0]) (gN (gKids t)[0]) A1 (gLen (gKids t)[0]) k1 W
      have hl0 : (0 : Int) < (gLen t : Int) := by omega
      have HVB : Hid ((gOp (gKids t)[0] == [] && !(gNm (gKids t)[0] == [])) = varB (gKids t)[0]) := hid rfl
      rw [HVB.out] at cV
      have HG : Hid (singB t = var0 t) := hid (by rw [HS.out]; simp [hl])
      have HP := hid hpos
      clear HVB HS hl
      go_wp2_with (first | (go_at_call 86; (with_reducible refine (cAs _).mono ?_); rintro e w3 ⟨rfl, hals⟩; obtain ⟨g, o, A1, k1, rfl, d0, d1, d2, d3, -⟩ := (hT0.later hals).kid 0 HP.out; simp only [Nat.zero_mul, Nat.add_zero] at d0 d1 d2 d3; have hX := hX.below hals; have hal := hal.trans (hals.mono hal.size); clear hT0 hals cAs; have x0 := hX.a0; have x1 := hX.a1; have x2 := hX.a2; have x3 := hX.a3) | (go_at_call 85; (with_reducible refine (cV _ _ _).mono ?_); rintro e w8 ⟨rfl, hbv⟩))
      go_ret
      exact ⟨by rw [HG.out, HV0.out]; rfl, hal.trans (hbv.mono hal.size)⟩
    · have gl : ((gLen t : Int) == 2) = false := by simp; omega
      have HG : Hid (singB t = false) := hid (by rw [HS.out]; simp [hl])
      clear HS hl hT0
      go_wp2_with (go_at_call 86; (with_reducible refine (cAs _).mono ?_); rintro e w3 ⟨rfl, hals⟩; have hX := hX.below hals; have hal := hal.trans (hals.mono hal.size); clear hals; have x0 := hX.a0; have x1 := hX.a1; have x2 := hX.a2; have x3 := hX.a3)
      go_ret
      exact ⟨by rw [HG.out]; rfl, hal⟩
  rw [if_neg (by decide)] at HS
  by_cases hn : gLen t = 2
  rotate_left
  · have gl : ((gLen t : Int) == 2) = false := by simp; omega
    have HG : Hid (singB t = false) := hid (by rw [HS.out]; simp [hn])
    clear HS hn hT0
    go_wp2_with (go_at_call 86; (with_reducible refine (cAs _).mono ?_); rintro e w3 ⟨rfl, hals⟩; have hX := hX.below hals; have hal := hal.trans (hals.mono hal.size); clear hals; have x0 := hX.a0; have x1 := hX.a1; have x2 := hX.a2; have x3 := hX.a3)
    go_ret
    exact ⟨by rw [HG.out]; rfl, hal⟩
  have gl : ((gLen t : Int) == 2) = true := by simp; omega
  have HS := hid (HS.out.trans (show (gLen t == 2 && inL sgD op) = inL sgD op by simp [hn]))
  clear hn hT0
  go_wp2_with (go_at_call 86; (with_reducible refine (cAs _).mono ?_); rintro e w3 ⟨rfl, hals⟩; have hX := hX.below hals; have hal := hal.trans (hals.mono hal.size); clear hals; have x0 := hX.a0; have x1 := hX.a1; have x2 := hX.a2; have x3 := hX.a3; have y0 := (hX.below (((Below.refl w3.heap.size w3).alloc (Nat.le_refl _) (.cells #[.string ⟨#[42]⟩, .string ⟨#[47]⟩, .string ⟨#[37]⟩, .string ⟨#[43]⟩, .string ⟨#[45]⟩, .string ⟨#[60, 60]⟩, .string ⟨#[62, 62]⟩, .string ⟨#[60]⟩, .string ⟨#[60, 61]⟩, .string ⟨#[62]⟩, .string ⟨#[62, 61]⟩, .string ⟨#[61, 61]⟩, .string ⟨#[33, 61]⟩, .string ⟨#[38]⟩, .string ⟨#[94]⟩, .string ⟨#[124]⟩, .string ⟨#[38, 38]⟩, .string ⟨#[124, 124]⟩, .string ⟨#[44]⟩, .string ⟨#[42, 42]⟩] 9)))).a0)
  have cI := In_new [[42], [47], [37], [43], [45], [60, 60], [62, 62], [60], [60, 61], [62], [62, 61], [61, 61], [33, 61], [38], [94], [124], [38, 38], [124, 124], [44], [42, 42]] (by decide) op w3
  refine cI.mono ?_
  rintro e w4 ⟨rfl, hw9⟩
  have hals : Below w3.heap.size w3 w4 := by rw [← hw9]; exact (Below.refl _ _).alloc (Nat.le_refl _) _
  have hal := hal.trans (hals.mono hal.size)
  clear cI hals hw9
  go_wp2_with fail
  go_ret
  exact ⟨by rw [HS.out]; rfl, hal⟩
end Go.Proofs.YthgmilllinbcjaaGreatDoor
namespace Go.Proofs.YthgmilllinbcjaaGreatDoor
open Go.RowKit
open Go.Lib (hid)

def badG (t : G) : Bool := anyG (fun t => !singB t) t
theorem badG_eq (t : G) : badG t = (!singB t || (gKids t).any badG) := anyG_eq _ t

set_option maxHeartbeats 2000000 in
theorem rall_any : ∀ (n : Nat) (t : G), SizeOf.sizeOf t = n → ∀ (A : Option Addr) (c : Nat) (w : World), GAt w A c t →
    Calls Tryz.prog 36 #[.agg #[g0 t, g1 t, g2 t, .slice A (gLen t) c]] w fun e w' => e = .returned (.bool (!badG t)) ∧ Below w.heap.size w w' := by
  intro n
  induction n using Nat.strongRecOn with
  | _ n ih =>
    intro t hn A c w hT
    have HE := hid (badG_eq t)
    have hl3 := hT.len
    have hX : Var4 (w.alloc (.cells #[g0 t, g1 t, g2 t, .slice A (gLen t) c] 24)) w.heap.size (g0 t) (g1 t) (g2 t) (.slice A (gLen t) c) := heap_alloc_new _ _
    have hal : Below w.heap.size w (w.alloc (.cells #[g0 t, g1 t, g2 t, .slice A (gLen t) c] 24)) := (Below.refl _ _).alloc (Nat.le_refl _) _
    have hT0 := hT.later hal
    have cS := single_any t (by have := hT.nm; omega) A c _ hT0
    have hl4 : (gLen t : Int) ≤ 281474976710656 := by omega
    have x0 := hX.a0; have x1 := hX.a1; have x2 := hX.a2; have x3 := hX.a3
    obtain ⟨s, hs⟩ : ∃ s, singB t = s := ⟨_, rfl⟩
    rw [hs] at cS HE
    cases s
    · have HF : Hid (badG t = true) := hid (by rw [HE.out]; rfl)
      clear ih hT hT0 hn HE
      go_enter Tryz.func36, Tryz.ntmps36
      generalize hw0 : w.alloc (.cells #[g0 t, g1 t, g2 t, .slice A (gLen t) c] 24) = w0 at *
      go_wp2_with (go_at_call 60; (with_reducible refine cS.mono ?_); rintro e w3 ⟨rfl, hb3⟩)
      go_ret
      exact ⟨by rw [HF.out]; rfl, hal.trans (hb3.mono hal.size)⟩
    · have HF : Hid (badG t = (gKids t).any badG) := hid (by rw [HE.out]; rfl)
      clear HE hs
      go_enter Tryz.func36, Tryz.ntmps36
      generalize hw0 : w.alloc (.cells #[g0 t, g1 t, g2 t, .slice A (gLen t) c] 24) = w0 at *
      go_wp2_with fail
      refine cS.mono ?_
      rintro e w1 ⟨rfl, hb1⟩
      have hX1 := hX.below hb1
      have hT1 := hT0.later hb1
      have hal1 := hal.trans (hb1.mono hal.size)
      clear hw0 hX hT hT0 hal cS x0 x1 x2 x3
      go_wp2_with fail
      go_loopw [3] (fun i wr => ∃ k : Nat, k ≤ gLen t ∧ i = .int .i64 k ∧ Below w.heap.size w wr ∧ Var4 wr w.heap.size (g0 t) (g1 t) (g2 t) (.slice A (gLen t) c) ∧ GAt wr A c t ∧ Hid ((gKids t).any badG = ((gKids t).drop k).any badG)) (fun i _ => gLen t - (intOf i).toNat)
      case atStart => exact ⟨0, Nat.zero_le _, rfl, hal1, hX1, hT1, hid rfl⟩
      case round =>
        clear hX1 hT1 hal1
        obtain ⟨k, hk, rfl, hB, hX, hTr, HD⟩ := hrel
        have x3 := hX.a3
        by_cases hlt : k < gLen t
        · have hlt' : k < (gKids t).length := hlt
          obtain ⟨g, o, A1, k1, rfl, d0, d1, d2, d3, hTk⟩ := hTr.kid k hlt'
          have hd : ((gKids t).drop k).any badG = (badG (gKids t)[k] || ((gKids t).drop (k + 1)).any badG) := by
            rw [List.drop_eq_getElem_cons hlt', List.any_cons]
          have hg1 : (k : Int) < (gLen t : Int) := by omega
          have hszk := kid_size t k hlt'
          have cC := ih (SizeOf.sizeOf (gKids t)[k]) (by omega) (gKids t)[k] rfl A1 k1 wr hTk
          have HD := hid (HD.out.trans hd)
          generalize (gKids t)[k] = tk at *
          generalize badG tk = bk at *
          clear ih hn hszk hd hlt'
          cases bk
          · go_wp2_with (go_at_call 36; (with_reducible refine cC.mono ?_); rintro e w3 ⟨rfl, hb3⟩)
            go_roundw
            case rel => exact ⟨k + 1, by omega, by go_num, hB.trans (hb3.mono hB.size), hX.below hb3, hTr.later hb3, hid (by rw [HD.out]; rfl)⟩
            case measure => simp [intOf]; omega
          · go_wp2_with (go_at_call 36; (with_reducible refine cC.mono ?_); rintro e w3 ⟨rfl, hb3⟩)
            go_ret
            exact ⟨by rw [HF.out, HD.out]; rfl, hB.trans (hb3.mono hB.size)⟩
        · have hke : k = gLen t := by omega
          subst hke
          have HF : Hid (badG t = false) := hid (by rw [HF.out, HD.out, show (gKids t).drop (gLen t) = [] from List.drop_length]; rfl)
          have hg1 : decide ((gLen t : Int) < (gLen t : Int)) = false := by simp
          clear ih hn HD
          go_wp2
          go_ret
          exact ⟨by rw [HF.out]; rfl, hB⟩

/-- What the reference's Check tells. -/
def rcheckG (t : G) : Int := if 60 < gH t - 1 then 42 else if badG t then 9 else 0

set_option maxHeartbeats 1000000 in
theorem rCheck_any (t : G) (A : Option Addr) (c : Nat) (w : World) (hT : GAt w A c t) :
    Calls Tryz.prog 17 #[.agg #[g0 t, g1 t, g2 t, .slice A (gLen t) c]] w fun e w' => e = .returned (.int .i64 (rcheckG t)) ∧ Below w.heap.size w w' := by
  have hX : Var4 (w.alloc (.cells #[g0 t, g1 t, g2 t, .slice A (gLen t) c] 24)) w.heap.size (g0 t) (g1 t) (g2 t) (.slice A (gLen t) c) := heap_alloc_new _ _
  have hal : Below w.heap.size w (w.alloc (.cells #[g0 t, g1 t, g2 t, .slice A (gLen t) c] 24)) := (Below.refl _ _).alloc (Nat.le_refl _) _
  have HC : Hid (rcheckG t = if 60 < gH t - 1 then 42 else if badG t then 9 else 0) := hid rfl
  have cD := rDeep_any t A c _ (hT.later hal)
  have cS := fun W hTW => rall_any (SizeOf.sizeOf t) t rfl A c W hTW
  have hT0 := hT.later hal
  have x0 := hX.a0; have x1 := hX.a1; have x2 := hX.a2; have x3 := hX.a3
  obtain ⟨m, hm⟩ : ∃ m, min 1000 (gH t - 1) = m := ⟨_, rfl⟩
  rw [hm] at cD
  generalize badG t = b at *
  by_cases h60 : 60 < gH t - 1
  · rw [if_pos h60] at HC
    have hm60 : (60 : Int) < (m : Int) := by omega
    clear hm h60 hT cS
    go_enter Tryz.func17, Tryz.ntmps17
    generalize hw0 : w.alloc (.cells #[g0 t, g1 t, g2 t, .slice A (gLen t) c] 24) = w0 at *
    go_wp2_with fail
    refine cD.mono ?_
    rintro e w1 ⟨rfl, hb1⟩
    go_wp2_with fail
    go_ret
    exact ⟨by rw [HC.out]; rfl, hal.trans (hb1.mono hal.size)⟩
  · rw [if_neg h60] at HC
    have hm60 : decide ((60 : Int) < (m : Int)) = false := by simp; omega
    clear hm h60 hT
    go_enter Tryz.func17, Tryz.ntmps17
    generalize hw0 : w.alloc (.cells #[g0 t, g1 t, g2 t, .slice A (gLen t) c] 24) = w0 at *
    go_wp2_with fail
    refine cD.mono ?_
    rintro e w1 ⟨rfl, hb1⟩
    have hX1 := hX.below hb1
    have x0 := hX1.a0; have x1 := hX1.a1; have x2 := hX1.a2; have x3 := hX1.a3
    have cS1 := cS w1 (hT0.later hb1)
    have hB1 := hal.trans (hb1.mono hal.size)
    clear cD cS
    go_wp2_with fail
    refine cS1.mono ?_
    rintro e w2 ⟨rfl, hb2⟩
    cases b
    · go_wp2_with fail
      go_ret
      exact ⟨by rw [HC.out]; rfl, hB1.trans (hb2.mono hB1.size)⟩
    · go_wp2_with fail
      go_ret
      exact ⟨by rw [HC.out]; rfl, hB1.trans (hb2.mono hB1.size)⟩
end Go.Proofs.YthgmilllinbcjaaGreatDoor
namespace Go.Proofs.YthgmilllinbcjaaGreatDoor
open Go.RowKit
open Go.Lib (hid)

theorem inL_mem {ms : List (List UInt8)} {x : List UInt8} (h : inL ms x = true) : x ∈ ms := by
  unfold inL at h
  simpa using h
theorem nameL_nil : nameL [] = false := by rfl
theorem formB_op {t : G} {n : Int} (h1 : gNm t = []) (h2 : gN t = 0) (h3 : levL (gOp t) ≠ 0 ∧ levL (gOp t) < 17 ∧ kidsN (levL (gOp t)) = n) (h4 : (gLen t : Int) = n) (h5 : writesB (gOp t) = true → var0 t = true) : formB t = true := by
  unfold formB
  rw [if_neg h3.1, if_neg (by rw [h3.2.2, h4]; simp), if_pos h3.2.1, h1, h2]
  cases hw : writesB (gOp t)
  · rfl
  · rw [h5 hw]; rfl
theorem sing_form (t : G) (h : singB t = true) : formB t = true := by
  unfold singB at h
  by_cases h0 : gOp t = []
  · rw [h0] at h
    simp only [beq_self_eq_true, if_true] at h
    unfold formB varB
    rw [h0, show levL [] = 17 from by decide, show kidsN 17 = 0 from by decide]
    simp only [Bool.and_eq_true, Bool.or_eq_true, beq_iff_eq, decide_eq_true_eq] at h
    obtain ⟨hl, h⟩ := h
    rw [hl]
    simp only [show ¬ ((17 : Int) = 0) by decide, if_false, show ¬ ((17 : Int) < 17) by decide]
    rw [if_neg (by simp)]
    by_cases h1 : gNm t = []
    · rw [h1] at h ⊢
      rw [nameL_nil] at h
      simp at h ⊢
      exact h
    · have e1 : (gNm t == []) = false := by simpa using h1
      rw [e1]
      rcases h with h | h
      · exact absurd h.1 h1
      · rw [h.1, h.2]; rfl
  · have e0 : (gOp t == []) = false := by simpa using h0
    rw [e0] at h
    simp only [Bool.false_eq_true, if_false] at h
    by_cases h1 : gNm t = []
    rotate_left
    · have e1 : (gNm t == []) = false := by simpa using h1
      rw [e1] at h
      simp at h
    rw [h1] at h
    simp only [beq_self_eq_true, if_true] at h
    by_cases h2 : gN t = 0
    rotate_left
    · have e2 : (gN t == 0) = false := by simpa using h2
      rw [e2] at h
      simp at h
    rw [h2] at h
    simp only [beq_self_eq_true, if_true] at h
    by_cases hA : inL sgA (gOp t) = true
    · rw [if_pos hA] at h
      have hm := (show ∀ m ∈ sgA, (levL m ≠ 0 ∧ levL m < 17 ∧ kidsN (levL m) = 1) ∧ writesB m = false by decide +kernel) _ (inL_mem hA)
      have hl : gLen t = 1 := by simpa using h
      exact formB_op h1 h2 hm.1 (by omega) (by rw [hm.2]; simp)
    rw [if_neg hA] at h
    by_cases hB : inL sgB (gOp t) = true
    · rw [if_pos hB] at h
      have hm := (show ∀ m ∈ sgB, (levL m ≠ 0 ∧ levL m < 17 ∧ kidsN (levL m) = 1) by decide +kernel) _ (inL_mem hB)
      simp only [Bool.and_eq_true, beq_iff_eq] at h
      exact formB_op h1 h2 hm (by omega) (fun _ => h.2)
    rw [if_neg hB] at h
    by_cases hq : gOp t = [63, 58]
    · rw [hq] at h
      simp only [beq_self_eq_true, if_true] at h
      have hl : gLen t = 3 := by simpa using h
      exact formB_op (n := 3) h1 h2 (by rw [hq]; decide +kernel) (by omega) (by rw [hq]; intro hw; exact absurd hw (by decide +kernel))
    have eq : (gOp t == [63, 58]) = false := by simpa using hq
    rw [eq] at h
    simp only [Bool.false_eq_true, if_false] at h
    by_cases hC : inL sgC (gOp t) = true
    · rw [if_pos hC] at h
      have hm := (show ∀ m ∈ sgC, (levL m ≠ 0 ∧ levL m < 17 ∧ kidsN (levL m) = 2) by decide +kernel) _ (inL_mem hC)
      simp only [Bool.and_eq_true, beq_iff_eq] at h
      exact formB_op h1 h2 hm (by omega) (fun _ => h.2)
    rw [if_neg hC] at h
    simp only [Bool.and_eq_true, beq_iff_eq] at h
    have hm := (show ∀ m ∈ sgD, (levL m ≠ 0 ∧ levL m < 17 ∧ kidsN (levL m) = 2) ∧ writesB m = false by decide +kernel) _ (inL_mem h.2)
    exact formB_op h1 h2 hm.1 (by omega) (by rw [hm.2]; simp)

theorem anyG_mono (p q : G → Bool) (h : ∀ t, q t = true → p t = true) : ∀ (n : Nat) (t : G), SizeOf.sizeOf t = n → anyG p t = false → anyG q t = false := by
  intro n
  induction n using Nat.strongRecOn with
  | _ n ih =>
    intro t hn ha
    rw [anyG_eq] at ha ⊢
    rw [Bool.or_eq_false_iff] at ha ⊢
    refine ⟨?_, ?_⟩
    · cases hq : q t
      · rfl
      · rw [h t hq] at ha; exact absurd ha.1 (by simp)
    · rw [List.any_eq_false] at ha ⊢
      intro x hx hqx
      obtain ⟨k, hk, rfl⟩ := List.getElem_of_mem hx
      have hs := kid_size t k hk
      have := ih _ (by omega) (gKids t)[k] rfl (by have := ha.2 _ hx; simpa using this)
      rw [this] at hqx
      exact absurd hqx (by simp)
/-- What the reference lets through is formed throughout. -/
theorem badG_formed (t : G) (h : badG t = false) : anyG (fun t => !formB t) t = false := by
  refine anyG_mono (fun t => !singB t) _ (fun t hq => ?_) _ t rfl h
  cases hs : singB t
  · rfl
  · rw [sing_form t hs] at hq
    exact absurd hq (by simp)
/-- Of what the reference says that it may be, and that is not so deep, the program says so too, and of one more level of an operator. -/
theorem checkG_ok (t : G) (h : rcheckG t = 0) (hd : gH t ≤ 60) : checkG t = 0 := by
  unfold rcheckG at h
  unfold checkG
  rw [if_neg (by omega)]
  cases hb : badG t
  · rw [badG_formed t hb]; rfl
  · rw [hb] at h
    split at h <;> simp at h
end Go.Proofs.YthgmilllinbcjaaGreatDoor
