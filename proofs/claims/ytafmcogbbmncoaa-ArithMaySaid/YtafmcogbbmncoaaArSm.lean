/- Contract of the reference's Same at two expressions in memory that are one. No conditions. -/
import Derived.Test.YtafmcogbbmncoaaArDp
import Derived.Test.YtafmcogbbmncoaaArV
namespace Go.Proofs.Ytafmcogbbmncoaa
open Go.RowKit
open Go.Lib (hid)

set_option maxHeartbeats 4000000 in
theorem same_any : ∀ (n : Nat) (t : T), sz t = n → ∀ (A A' : Option Addr) (c c' : Nat) (P P' : Nat → Prop) (w : World), Tree w P A c t → Tree w P' A' c' t →
    Calls Try.prog 13 #[.agg #[c0 t, c1 t, c2 t, .slice A (lenT t) c], .agg #[c0 t, c1 t, c2 t, .slice A' (lenT t) c']] w fun e w' => e = .returned (.bool true) ∧ Below w.heap.size w w' := by
  intro n
  induction n using Nat.strongRecOn with
  | _ n ih =>
    intro t hn A A' c c' P P' w hT hT'
    have hkl := kids_len t
    have hl3 : lenT t ≤ 3 := by cases t <;> simp [lenT]
    have hal1 : Below w.heap.size w (w.alloc (.cells #[c0 t, c1 t, c2 t, .slice A (lenT t) c] 24)) := (Below.refl _ _).alloc (Nat.le_refl _) _
    have hX : Var4 ((w.alloc (.cells #[c0 t, c1 t, c2 t, .slice A (lenT t) c] 24)).alloc (.cells #[c0 t, c1 t, c2 t, .slice A' (lenT t) c'] 24)) w.heap.size (c0 t) (c1 t) (c2 t) (.slice A (lenT t) c) := (Below.heap_alloc _ _ _ (by simp)).trans (heap_alloc_new _ _)
    have hY : Var4 ((w.alloc (.cells #[c0 t, c1 t, c2 t, .slice A (lenT t) c] 24)).alloc (.cells #[c0 t, c1 t, c2 t, .slice A' (lenT t) c'] 24)) (w.heap.size + 1) (c0 t) (c1 t) (c2 t) (.slice A' (lenT t) c') := by
      have := heap_alloc_new (w.alloc (.cells #[c0 t, c1 t, c2 t, .slice A (lenT t) c] 24)) (.cells #[c0 t, c1 t, c2 t, .slice A' (lenT t) c'] 24)
      rwa [World.size_alloc] at this
    have hal : Below w.heap.size w ((w.alloc (.cells #[c0 t, c1 t, c2 t, .slice A (lenT t) c] 24)).alloc (.cells #[c0 t, c1 t, c2 t, .slice A' (lenT t) c'] 24)) := hal1.alloc hal1.size _
    have hT0 := hT.below hal
    have hT0' := hT'.below hal
    have x0 := hX.a0; have x1 := hX.a1; have x2 := hX.a2; have x3 := hX.a3
    have y0 := hY.a0; have y1 := hY.a1; have y2 := hY.a2; have y3 := hY.a3
    clear hal1 hT hT'
    go_enter Try.func13, Try.ntmps13
    go_wp2_with fail
    generalize (w.alloc (.cells #[c0 t, c1 t, c2 t, .slice A (lenT t) c] 24)).alloc (.cells #[c0 t, c1 t, c2 t, .slice A' (lenT t) c'] 24) = w0 at *
    clear x0 x1 x2 x3 y0 y1 y2 y3
    go_loopw [5] (fun i wr => ∃ k : Nat, k ≤ (kidsT t).length ∧ i = .int .i64 k ∧ Below w.heap.size w wr ∧ Var4 wr w.heap.size (c0 t) (c1 t) (c2 t) (.slice A (lenT t) c) ∧ Var4 wr (w.heap.size + 1) (c0 t) (c1 t) (c2 t) (.slice A' (lenT t) c') ∧ Tree wr P A c t ∧ Tree wr P' A' c' t) (fun i _ => (kidsT t).length - (intOf i).toNat)
    case atStart => exact ⟨0, Nat.zero_le _, rfl, hal, hX, hY, hT0, hT0'⟩
    case round =>
      clear hX hY hT0 hT0' hal
      obtain ⟨k, hk, rfl, hB, hX, hY, hTr, hTr'⟩ := hrel
      have x3 := hX.a3; have y3 := hY.a3
      by_cases hlt : k < (kidsT t).length
      · obtain ⟨g, A1, k1, rfl, d0, d1, d2, d3, hTk⟩ := hTr.kid k hlt
        obtain ⟨g', A1', k1', rfl, d0', d1', d2', d3', hTk'⟩ := hTr'.kid k hlt
        have hg1 : (k : Int) < (lenT t : Int) := by omega
        have hg0 : (0 : Int) ≤ (k : Int) := by omega
        have hszk := kids_sz t k hlt
        have cD := ih (sz (kidsT t)[k]) (by omega) (kidsT t)[k] rfl A1 A1' k1 k1' P P' wr.drew hTk.drew hTk'.drew
        generalize (kidsT t)[k] = tk at *
        clear ih hn hszk hTk hTk'
        go_wp2_with fail
        go_region_held3 (fun w' => w'.cell? ⟨w.heap.size, 3, none⟩ = some (.slice (some ⟨g, 0, none⟩) (lenT t) c) ∧ w'.cell? ⟨w.heap.size + 1, 3, none⟩ = some (.slice (some ⟨g', 0, none⟩) (lenT t) c') ∧
            w'.cell? ⟨g, k * 4, none⟩ = some (c0 tk) ∧ w'.cell? ⟨g, k * 4 + 1, none⟩ = some (c1 tk) ∧ w'.cell? ⟨g, k * 4 + 2, none⟩ = some (c2 tk) ∧ w'.cell? ⟨g, k * 4 + 3, none⟩ = some (.slice A1 (lenT tk) k1) ∧
            w'.cell? ⟨g', k * 4, none⟩ = some (c0 tk) ∧ w'.cell? ⟨g', k * 4 + 1, none⟩ = some (c1 tk) ∧ w'.cell? ⟨g', k * 4 + 2, none⟩ = some (c2 tk) ∧ w'.cell? ⟨g', k * 4 + 3, none⟩ = some (.slice A1' (lenT tk) k1'))
          (first | go_keep | exact ⟨cell_below hb3 x3, cell_below hb3 y3, cell_below hb3 d0, cell_below hb3 d1, cell_below hb3 d2, cell_below hb3 d3, cell_below hb3 d0', cell_below hb3 d1', cell_below hb3 d2', cell_below hb3 d3'⟩)
          (first | (go_at_call 13; (with_reducible refine cD.mono ?_); rintro e w3 ⟨rfl, hb3⟩))
        go_wp2
        have hb3 : Below wr.heap.size wr w3 := ⟨hb3.os, hb3.tape, hb3.output, hb3.size, hb3.block⟩
        go_roundw
        case rel => exact ⟨k + 1, by omega, by go_num, hB.trans (hb3.mono hB.size), hX.below hb3, hY.below hb3, hTr.below hb3, hTr'.below hb3⟩
        case measure => simp [intOf]; omega
      · have hke : k = (kidsT t).length := by omega
        subst hke
        have hg1 : decide (((kidsT t).length : Int) < (lenT t : Int)) = false := by simp; omega
        clear ih hn
        go_wp2
        go_ret
        exact ⟨rfl, hB⟩
end Go.Proofs.Ytafmcogbbmncoaa
