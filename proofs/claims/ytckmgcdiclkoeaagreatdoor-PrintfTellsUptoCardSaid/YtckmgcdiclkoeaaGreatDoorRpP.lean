
/- The reference's Print (of layer 4). No conditions. -/
import Derived.Test.YtckmgcdiclkoeaaGreatDoorRpW
namespace Go.Proofs.YtckmgcdiclkoeaaGreatDoor
open Go.RowKit
open Go.Lib (hid)

set_option linter.unusedSimpArgs false in
set_option maxRecDepth 100000 in
set_option maxHeartbeats 1000000 in
theorem rprint_any (n : Int) (h0 : -9223372036854775808 ≤ n) (h1 : n ≤ 9223372036854775807) (w : World) : Calls Tryz.prog 42 #[.int .i64 n] w fun e w' => e = .returned (encS (printL n)) ∧ Below w.heap.size w w' := by
  obtain ⟨a, ha⟩ : ∃ a, n.natAbs = a := ⟨_, rfl⟩
  have cD := fun W => rword_any a (by omega) W
  have hdl : (decD a).length ≤ 9223372036854775806 := by
    have h1 : ∀ v : Nat, (decD v).length ≤ v + 1 := fun v => by
      induction v using Nat.strongRecOn with
      | _ v ih =>
        by_cases hv : v < 10
        · rw [decD_one hv]; simp
        · rw [decD_more (by omega), List.length_append, List.length_singleton]
          have := ih (v / 10) (by omega)
          omega
    have h2 : (decD a).length ≤ 19 + 1 := by
      have h3 : ∀ (k v : Nat), v < 10 ^ (k + 1) → (decD v).length ≤ k + 1 := fun k => by
        induction k with
        | zero => intro v hv; rw [decD_one (by omega)]; simp
        | succ k ih =>
          intro v hv
          by_cases hv2 : v < 10
          · rw [decD_one hv2]; simp
          · rw [decD_more (by omega), List.length_append, List.length_singleton]
            have := ih (v / 10) (by rw [Nat.pow_succ] at hv; omega)
            omega
      have := h3 19 a (by omega)
      omega
    omega
  have hcat := cat_list [45] (decD a)
  unfold printL
  rw [ha]
  by_cases hn : n < 0
  · rw [if_pos hn]
    obtain ⟨v, hv⟩ : ∃ v, IntKind.u64.wrap n = v := ⟨_, rfl⟩
    have hv2 : IntKind.u64.wrap (-v) = (a : Int) := by
      rw [IntKind.wrap_u64] at hv ⊢
      omega
    obtain ⟨y, hy⟩ : ∃ y, 45 :: decD a = y := ⟨_, rfl⟩
    rw [show [45] ++ decD a = y from hy] at hcat
    rw [hy]
    clear hy
    generalize decD a = z at *
    go_enter Tryz.func42, Tryz.ntmps42
    go_wp2_with fail
    refine (cD _).mono ?_
    rintro e w1 ⟨rfl, hb⟩
    go_wp2_with fail
    go_ret
    exact ⟨rfl, hb⟩
  · rw [if_neg hn]
    have hv : IntKind.u64.wrap n = (a : Int) := by
      rw [IntKind.wrap_u64]
      omega
    generalize decD a = z at *
    go_enter Tryz.func42, Tryz.ntmps42
    go_wp2_with fail
    refine (cD _).mono ?_
    rintro e w1 ⟨rfl, hb⟩
    go_wp2_with fail
    go_ret
    exact ⟨rfl, hb⟩
end Go.Proofs.YtckmgcdiclkoeaaGreatDoor
