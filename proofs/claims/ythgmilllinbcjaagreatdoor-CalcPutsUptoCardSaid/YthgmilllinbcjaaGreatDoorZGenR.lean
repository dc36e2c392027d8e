/- Contracts of the reference's Name, In, single, all, Check at any expression in memory; what single lets through, formed does. No conditions but sizes. -/
import Derived.Test.YthgmilllinbcjaaGreatDoorZGenS
namespace Go.Proofs.YthgmilllinbcjaaGreatDoor
open Go.RowKit
open Go.Lib (hid)

def rletB (c : Int) : Bool := letterB c || decide (c = 95)
set_option maxHeartbeats 1000000 in
theorem rletter_any (c : Int) (w : World) : Calls Tryz.prog 107 #[.int .u8 c] w fun e w' => e = .returned (.bool (rletB c)) ∧ w = w' := by
  by_cases h1 : 97 ≤ c <;> by_cases h2 : c ≤ 122 <;> by_cases h3 : 65 ≤ c <;> by_cases h4 : c ≤ 90 <;> by_cases h5 : c = 95
  all_goals
    first
    | (exfalso; omega)
    | ((first | have H := Lib.hid (show rletB c = true by (unfold rletB letterB; simp; omega)) | have H := Lib.hid (show rletB c = false by (unfold rletB letterB; simp; omega)))
       try have d1 : decide (97 ≤ c) = false := decide_eq_false h1
       try have d2 : decide (c ≤ 122) = false := decide_eq_false h2
       try have d3 : decide (65 ≤ c) = false := decide_eq_false h3
       try have d4 : decide (c ≤ 90) = false := decide_eq_false h4
       try have d5 : (c == 95) = false := by simpa using h5
       try have d6 : (c == 95) = true := by simpa using h5
       clear h5
       go_enter Tryz.func107, Tryz.ntmps107
       go_wp2
       go_ret
       exact ⟨by rw [H.out]; rfl, rfl⟩)
theorem rdigit_any (c : Int) (w : World) : Calls Tryz.prog 108 #[.int .u8 c] w fun e w' => e = .returned (.bool (digitB c)) ∧ w = w' := by
  have hb : digitB c = (decide (48 ≤ c) && decide (c ≤ 57)) := by unfold digitB; simp
  by_cases h1 : 48 ≤ c <;> by_cases h2 : c ≤ 57
  all_goals
    have H := Lib.hid hb
    clear hb
    go_enter Tryz.func108, Tryz.ntmps108
    go_wp2
    go_ret
    exact ⟨by rw [H.out]; simp [h1, h2], rfl⟩

theorem nameAt_r (k : Nat) (c : UInt8) : nameAt k c = (rletB c.toNat || (!decide ((k : Int) = 0) && digitB c.toNat)) := by
  rw [nameAt_eq]
  unfold rletB
  have : decide (0 < (k : Int)) = !decide ((k : Int) = 0) := by rw [Bool.eq_iff_iff]; simp; omega
  rw [this]
  cases letterB c.toNat <;> cases decide ((c.toNat : Int) = 95) <;> rfl

set_option maxHeartbeats 2000000 in
theorem rName_any (s : ByteArray) (w : World) (hs : s.size ≤ maxLen) : Calls Tryz.prog 84 #[.string s] w fun e w' => e = .returned (.bool (nameL s.data.toList)) ∧ w = w' := by
  unfold maxLen at hs
  have HN : Hid (nameL s.data.toList = (!s.data.toList.isEmpty && decide (s.data.toList.length ≤ 64) && everyL nameAt 0 s.data.toList)) := hid rfl
  go_enter Tryz.func84, Tryz.ntmps84
  go_wp2
  go_loop [3] (fun i => ∃ k : Nat, k ≤ s.size ∧ i = .int .i64 k ∧ Hid (everyL nameAt 0 s.data.toList = everyL nameAt k (s.data.toList.drop k))) (fun i => s.size - (intOf i).toNat)
  case atStart => exact ⟨0, Nat.zero_le _, rfl, hid rfl⟩
  case round =>
    obtain ⟨k, hk, rfl, HE⟩ := hrel
    by_cases hlt : k < s.size
    · have hd := everyL_drop nameAt s.data.toList k (by rw [len_toList]; exact hlt)
      rw [getElem_toList s k hlt, nameAt_r] at hd
      have HD := hid hd
      clear hd
      have c1 := fun W => rletter_any (s[k].toNat : Int) W
      have c2 := fun W => rdigit_any (s[k].toNat : Int) W
      generalize rletB (s[k].toNat : Int) = b1 at *
      generalize digitB (s[k].toNat : Int) = b2 at *
      cases b1
      · by_cases hk0 : k = 0
        · have g0 : ((k : Int) == 0) = true := by simp; omega
          have HF : Hid (nameL s.data.toList = false) := hid (by rw [HN.out, HE.out, HD.out, hk0]; simp)
          clear HN HE HD hk0
          go_wp2_with (first | (go_at_call 107; (with_reducible refine (c1 _).mono ?_); rintro e w' ⟨rfl, rfl⟩) | (go_at_call 108; (with_reducible refine (c2 _).mono ?_); rintro e w' ⟨rfl, rfl⟩))
          go_ret
          exact ⟨by rw [HF.out]; rfl, rfl⟩
        · have g0 : ((k : Int) == 0) = false := by simp; omega
          have hk1 : decide ((k : Int) = 0) = false := decide_eq_false (by omega)
          cases b2
          · have HF : Hid (nameL s.data.toList = false) := hid (by rw [HN.out, HE.out, HD.out, hk1]; simp)
            clear HN HE HD hk0 hk1
            go_wp2_with (first | (go_at_call 107; (with_reducible refine (c1 _).mono ?_); rintro e w' ⟨rfl, rfl⟩) | (go_at_call 108; (with_reducible refine (c2 _).mono ?_); rintro e w' ⟨rfl, rfl⟩))
            go_ret
            exact ⟨by rw [HF.out]; rfl, rfl⟩
          · have HF : Hid (everyL nameAt 0 s.data.toList = everyL nameAt (k + 1) (s.data.toList.drop (k + 1))) := hid (by rw [HE.out, HD.out, hk1]; rfl)
            clear HE HD hk0 hk1
            go_wp2_with (first | (go_at_call 107; (with_reducible refine (c1 _).mono ?_); rintro e w' ⟨rfl, rfl⟩) | (go_at_call 108; (with_reducible refine (c2 _).mono ?_); rintro e w' ⟨rfl, rfl⟩))
            go_round
            case rel => exact ⟨k + 1, by omega, by go_num, HF⟩
            case measure => simp [intOf]; omega
      · have HF : Hid (everyL nameAt 0 s.data.toList = everyL nameAt (k + 1) (s.data.toList.drop (k + 1))) := hid (by rw [HE.out, HD.out]; rfl)
        clear HE HD
        go_wp2_with (first | (go_at_call 107; (with_reducible refine (c1 _).mono ?_); rintro e w' ⟨rfl, rfl⟩) | (go_at_call 108; (with_reducible refine (c2 _).mono ?_); rintro e w' ⟨rfl, rfl⟩))
        go_round
        case rel => exact ⟨k + 1, by omega, by go_num, HF⟩
        case measure => simp [intOf]; omega
    · have HF : Hid (nameL s.data.toList = (decide (0 < s.size) && decide (s.size ≤ 64))) := hid (by
        rw [HN.out, HE.out, List.drop_of_length_le (by rw [len_toList]; omega), len_toList]
        have : s.data.toList.isEmpty = !decide (0 < s.size) := by
          rw [← len_toList]
          cases s.data.toList <;> rfl
        rw [this]
        cases decide (0 < s.size) <;> cases decide (s.size ≤ 64) <;> rfl)
      clear HE HN
      by_cases h1 : 0 < s.size
      · by_cases h2 : s.size ≤ 64
        · have HF : Hid (nameL s.data.toList = true) := hid (by rw [HF.out, decide_eq_true h1, decide_eq_true h2]; rfl)
          have g1 : (0 : Int) < (s.size : Int) := by omega
          have g2 : (s.size : Int) ≤ 64 := by omega
          clear h1 h2
          go_wp2
          go_ret
          exact ⟨by rw [HF.out]; rfl, rfl⟩
        · have HF : Hid (nameL s.data.toList = false) := hid (by rw [HF.out, decide_eq_true h1, decide_eq_false h2]; rfl)
          have g1 : (0 : Int) < (s.size : Int) := by omega
          have g2 : decide ((s.size : Int) ≤ 64) = false := decide_eq_false (by omega)
          clear h1 h2
          go_wp2
          go_ret
          exact ⟨by rw [HF.out]; rfl, rfl⟩
      · have HF : Hid (nameL s.data.toList = false) := hid (by rw [HF.out, decide_eq_false h1]; rfl)
        have hz : s.size = 0 := by omega
        clear h1 hlt hk
        go_wp2
        go_ret
        exact ⟨by rw [HF.out]; rfl, rfl⟩

def inL (ms : List (List UInt8)) (x : List UInt8) : Bool := ms.contains x
theorem inL_drop (ms : List (List UInt8)) (x : List UInt8) (k : Nat) (h : k < ms.length) : inL (ms.drop k) x = (x == ms[k] || inL (ms.drop (k + 1)) x) := by
  unfold inL
  rw [List.drop_eq_getElem_cons h, List.contains_cons]

set_option maxHeartbeats 1000000 in
theorem In_any (ms : List (List UInt8)) (b c : Nat) (x : List UInt8) (w : World) (hm : ms.length ≤ 64) (hc : ∀ j (h : j < ms.length), w.cell? ⟨b, j, none⟩ = some (.string ⟨ms[j].toArray⟩)) :
    Calls Tryz.prog 57 #[.slice (some ⟨b, 0, none⟩) ms.length c, .string ⟨x.toArray⟩] w fun e w' => e = .returned (.bool (inL ms x)) ∧ w = w' := by
  go_enter Tryz.func57, Tryz.ntmps57
  go_wp2
  go_loop [5] (fun i => ∃ k : Nat, k ≤ ms.length ∧ i = .int .i64 k ∧ Hid (inL ms x = inL (ms.drop k) x)) (fun i => ms.length - (intOf i).toNat)
  case atStart => exact ⟨0, Nat.zero_le _, rfl, hid rfl⟩
  case round =>
    obtain ⟨k, hk, rfl, HE⟩ := hrel
    by_cases hlt : k < ms.length
    · have HD : Hid (inL ms x = (x == ms[k] || inL (ms.drop (k + 1)) x)) := hid (by rw [HE.out, inL_drop ms x k hlt])
      have h0 := hc k hlt
      have hg1 : (k : Int) < (ms.length : Int) := by omega
      have hg0 : (0 : Int) ≤ (k : Int) := by omega
      generalize ms[k] = mk at *
      cases hv : (x == mk)
      · have g1 : (mk == x) = false := by rw [beq_eq_false_iff_ne] at hv ⊢; exact hv.symm
        have HN : Hid (inL ms x = inL (ms.drop (k + 1)) x) := hid (by rw [HD.out, hv]; rfl)
        clear hc HE HD hv
        go_wp2
        go_round
        case rel => exact ⟨k + 1, by omega, by go_num, HN⟩
        case measure => simp [intOf]; omega
      · have g1 : (mk == x) = true := by rw [beq_iff_eq] at hv ⊢; exact hv.symm
        have HN : Hid (inL ms x = true) := hid (by rw [HD.out, hv]; rfl)
        clear hc HE HD hv
        go_wp2
        go_ret
        exact ⟨by rw [HN.out]; rfl, rfl⟩
    · have hke : k = ms.length := by omega
      subst hke
      have HN : Hid (inL ms x = false) := hid (by rw [HE.out, List.drop_length]; rfl)
      have hg1 : decide ((ms.length : Int) < (ms.length : Int)) = false := by simp
      clear HE hc
      go_wp2
      go_ret
      exact ⟨by rw [HN.out]; rfl, rfl⟩
theorem In_new (ms : List (List UInt8)) (hm : ms.length ≤ 64) (x : List UInt8) (w : World) :
    Calls Tryz.prog 57 #[.slice (some ⟨w.heap.size, 0, none⟩) ms.length ms.length, .string ⟨x.toArray⟩] (w.alloc (.cells (ms.map fun m => Value.string ⟨m.toArray⟩).toArray 9)) fun e w' => e = .returned (.bool (inL ms x)) ∧ w.alloc (.cells (ms.map fun m => Value.string ⟨m.toArray⟩).toArray 9) = w' :=
  In_any ms w.heap.size ms.length x _ hm (fun j hj => by
    rw [cell_heap (heap_alloc_new w _)]
    simp [hj])

theorem rAssigns_any (op : List UInt8) (w : World) : Calls Tryz.prog 86 #[.string ⟨op.toArray⟩] w fun e w' => e = .returned (.bool (inL [[61], [42, 61], [47, 61], [37, 61], [43, 61], [45, 61], [60, 60, 61], [62, 62, 61], [38, 61], [94, 61], [124, 61]] op)) ∧ Below w.heap.size w w' := by
  have cI := In_new [[61], [42, 61], [47, 61], [37, 61], [43, 61], [45, 61], [60, 60, 61], [62, 62, 61], [38, 61], [94, 61], [124, 61]] (by decide) op w
  go_enter Tryz.func86, Tryz.ntmps86
  go_wp2_with fail
  refine cI.mono ?_
  rintro e w1 ⟨rfl, rfl⟩
  go_wp2_with fail
  go_ret
  exact ⟨rfl, (Below.refl _ _).alloc (Nat.le_refl _) _⟩

set_option maxHeartbeats 1000000 in
theorem rvariable_any (op nm : List UInt8) (nn : Int) (A : Option Addr) (ln c : Nat) (w : World) :
    Calls Tryz.prog 85 #[.agg #[.string ⟨op.toArray⟩, .string ⟨nm.toArray⟩, .int .i64 nn, .slice A ln c]] w fun e w' => e = .returned (.bool (op == [] && !(nm == []))) ∧ Below w.heap.size w w' := by
  have hV : Var4 (w.alloc (.cells #[.string ⟨op.toArray⟩, .string ⟨nm.toArray⟩, .int .i64 nn, .slice A ln c] 24)) w.heap.size (.string ⟨op.toArray⟩) (.string ⟨nm.toArray⟩) (.int .i64 nn) (.slice A ln c) := heap_alloc_new _ _
  have hb : Below w.heap.size w (w.alloc (.cells #[.string ⟨op.toArray⟩, .string ⟨nm.toArray⟩, .int .i64 nn, .slice A ln c] 24)) := (Below.refl _ _).alloc (Nat.le_refl _) _
  have v0 := hV.a0; have v1 := hV.a1
  cases g1 : (op == [])
  · go_enter Tryz.func85, Tryz.ntmps85
    go_wp2
    go_ret
    exact ⟨rfl, hb⟩
  · cases g2 : (nm == [])
    · go_enter Tryz.func85, Tryz.ntmps85
      go_wp2
      go_ret
      exact ⟨rfl, hb⟩
    · go_enter Tryz.func85, Tryz.ntmps85
      go_wp2
      go_ret
      exact ⟨rfl, hb⟩
end Go.Proofs.YthgmilllinbcjaaGreatDoor
