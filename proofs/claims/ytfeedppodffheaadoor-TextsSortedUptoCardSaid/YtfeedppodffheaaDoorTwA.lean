
/- texts.Head, texts.Tail: the program's calls. Conditions: sizes. -/
import Derived.Test.YtfeedppodffheaaDoorTwM
import Derived.Test.YtfeedppodffheaaDoorLnP
import Derived.Test.YtfeedppodffheaaDoorTxtP
namespace Go.Proofs.YtfeedppodffheaaDoor
open Go.RowKit
open Go.Lib (hid)

theorem mk_of (t : ByteArray) : encS t.data.toList = .string t := rfl
theorem mk_len (l : List UInt8) : (⟨l.toArray⟩ : ByteArray).size = l.length := by simp [ByteArray.size]

set_option linter.unusedSimpArgs false in
set_option maxHeartbeats 2000000 in
theorem head_any (s : List UInt8) (n : Int) (w : World) (hs : s.length ≤ 140737488355328) (n0 : -9223372036854775808 ≤ n) (n1 : n ≤ 9223372036854775807) :
    Calls Tryd.prog 9 #[encS s, .int .i64 n] w fun e w' => e = .returned (encS (headL s n)) ∧ Below w.heap.size w w' := by
  obtain ⟨r0, hR⟩ : ∃ r, headL s n = r := ⟨_, rfl⟩
  rw [hR]
  have HR := hid hR
  clear hR
  go_enter Tryd.func9, Tryd.ntmps9
  go_wp2_with fail
  go_loopw [1, 5] (fun vn v wr => ∃ (k q : Nat) (l : List UInt8) (m : Int), v = encS l ∧ vn = .int .i64 m ∧ m = n - k ∧ k ≤ n.toNat ∧ Hid (keptL l = (keptL s).drop k) ∧ l.length ≤ s.length ∧ Hid (wr = w.drewN q)) (fun vn _ _ => (intOf vn).toNat)
  case atStart => exact ⟨0, 0, s, n, rfl, rfl, by omega, Nat.zero_le _, hid rfl, Nat.le_refl _, hid rfl⟩
  case round =>
    obtain ⟨k, q, l, m, rfl, rfl, hm, hk, HL, hl, HW⟩ := hrel
    by_cases h0 : 0 < m
    · by_cases hl0 : l = []
      · have HE := hid ((head_end HL.out hk (.inr hl0)).trans HR.out)
        subst hl0
        have cC := fun W => clone_any r0 (by rw [← HE.out, List.length_take]; omega) W
        have hsl : (⟨s.toArray⟩ : ByteArray).extract 0 s.length = ⟨r0.toArray⟩ := by rw [← HE.out]; apply ByteArray.ext; simp
        clear HL HE
        go_wp2_with fail
        refine (cC _).mono ?_
        rintro e w1 ⟨rfl, hb⟩
        go_wp2_with fail
        go_ret
        rw [HW.out] at hb
        exact ⟨rfl, (below_drewN (Below.refl _ _) q).trans hb⟩
      · have hlne : (l == []) = false := by simpa using hl0
        have HN := hid (kept_drop HL.out hl0)
        have hr : (restOf l).length ≤ l.length := by
          have := lineOf_rest l
          omega
        have cC := fun W => cut_ten ⟨l.toArray⟩ W (by rw [mk_len]; omega)
        generalize restOf l = r at *
        generalize lineOf l = r1 at *
        clear HL
        go_wp2_with fail
        refine (cC _).mono ?_
        rintro e w1 ⟨b, j, rfl, rfl⟩
        go_wp2_with fail
        go_roundw
        case rel => exact ⟨k + 1, q + j, r, n - (k + 1), rfl, by go_num, by omega, by omega, HN, by omega, hid (by rw [HW.out]; simp)⟩
        case measure => simp [intOf]; omega
    · have HE := hid ((head_end HL.out hk (.inl (by omega))).trans HR.out)
      have hkz : s.length - l.length ≤ s.length := by omega
      have cC := fun W => clone_any r0 (by rw [← HE.out, List.length_take]; omega) W
      obtain ⟨z, hz⟩ : ∃ z : Nat, s.length - l.length = z := ⟨_, rfl⟩
      have hzi : (s.length : Int) - (l.length : Int) = z := by omega
      have hsl : (⟨s.toArray⟩ : ByteArray).extract 0 z = ⟨r0.toArray⟩ := by rw [← HE.out, hz]; apply ByteArray.ext; simp
      clear HL HE
      go_wp2_with fail
      refine (cC _).mono ?_
      rintro e w1 ⟨rfl, hb⟩
      go_wp2_with fail
      go_ret
      rw [HW.out] at hb
      exact ⟨rfl, (below_drewN (Below.refl _ _) q).trans hb⟩

end Go.Proofs.YtfeedppodffheaaDoor
