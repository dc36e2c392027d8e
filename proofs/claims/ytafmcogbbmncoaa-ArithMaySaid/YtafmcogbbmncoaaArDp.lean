/- Contracts of arith's deep and Deep at an expression in memory. No conditions. -/
import Derived.Test.YtafmcogbbmncoaaArS
import Derived.Deep.RegionHeld3
namespace Go.Proofs.Ytafmcogbbmncoaa
open Go.RowKit
open Go.Lib (hid)

def kidsT : T → List T
  | .leaf .. => [] | .one _ a => [a] | .two _ a b => [a, b] | .three _ a b c => [a, b, c]
def sz : T → Nat
  | .leaf .. => 0 | .one _ a => sz a + 1 | .two _ a b => sz a + sz b + 1 | .three _ a b c => sz a + sz b + sz c + 1
theorem kids_len (t : T) : (kidsT t).length = lenT t := by cases t <;> rfl
theorem kids_sz (t : T) (k : Nat) (h : k < (kidsT t).length) : sz (kidsT t)[k] < sz t := by
  cases t with
  | leaf => exact absurd h (by simp [kidsT])
  | one op a =>
    obtain rfl : k = 0 := by simpa [kidsT] using h
    show sz a < sz a + 1; omega
  | two op a b =>
    have : k = 0 ∨ k = 1 := by simp [kidsT] at h; omega
    rcases this with rfl | rfl
    · show sz a < sz a + sz b + 1; omega
    · show sz b < sz a + sz b + 1; omega
  | three op a b c =>
    have : k = 0 ∨ k = 1 ∨ k = 2 := by simp [kidsT] at h; omega
    rcases this with rfl | rfl | rfl
    · show sz a < sz a + sz b + sz c + 1; omega
    · show sz b < sz a + sz b + sz c + 1; omega
    · show sz c < sz a + sz b + sz c + 1; omega
theorem Tree.kid {w : World} {P : Nat → Prop} {A : Option Addr} {c : Nat} {t : T} (h : Tree w P A c t) (k : Nat) (hk : k < (kidsT t).length) :
    ∃ g A1 k1, A = some ⟨g, 0, none⟩ ∧ w.cell? ⟨g, k * 4, none⟩ = some (c0 (kidsT t)[k]) ∧ w.cell? ⟨g, k * 4 + 1, none⟩ = some (c1 (kidsT t)[k]) ∧ w.cell? ⟨g, k * 4 + 2, none⟩ = some (c2 (kidsT t)[k]) ∧ w.cell? ⟨g, k * 4 + 3, none⟩ = some (.slice A1 (lenT (kidsT t)[k]) k1) ∧ Tree w P A1 k1 (kidsT t)[k] := by
  cases t with
  | leaf => exact absurd hk (by simp [kidsT])
  | one op a =>
    obtain rfl : k = 0 := by simpa [kidsT] using hk
    obtain ⟨g, A1, k1, h1, -, -, h4, h5⟩ := h
    exact ⟨g, A1, k1, h1, (cell_heap h4 0).trans rfl, (cell_heap h4 1).trans rfl, (cell_heap h4 2).trans rfl, (cell_heap h4 3).trans rfl, h5⟩
  | two op a b =>
    obtain ⟨g, A1, k1, A2, k2, h1, -, -, h4, h5, h6⟩ := h
    have : k = 0 ∨ k = 1 := by simp [kidsT] at hk; omega
    rcases this with rfl | rfl
    · exact ⟨g, A1, k1, h1, (cell_heap h4 0).trans rfl, (cell_heap h4 1).trans rfl, (cell_heap h4 2).trans rfl, (cell_heap h4 3).trans rfl, h5⟩
    · exact ⟨g, A2, k2, h1, (cell_heap h4 4).trans rfl, (cell_heap h4 5).trans rfl, (cell_heap h4 6).trans rfl, (cell_heap h4 7).trans rfl, h6⟩
  | three op a b c =>
    obtain ⟨g, A1, k1, A2, k2, A3, k3, h1, -, -, h4, h5, h6, h7⟩ := h
    have : k = 0 ∨ k = 1 ∨ k = 2 := by simp [kidsT] at hk; omega
    rcases this with rfl | rfl | rfl
    · exact ⟨g, A1, k1, h1, (cell_heap h4 0).trans rfl, (cell_heap h4 1).trans rfl, (cell_heap h4 2).trans rfl, (cell_heap h4 3).trans rfl, h5⟩
    · exact ⟨g, A2, k2, h1, (cell_heap h4 4).trans rfl, (cell_heap h4 5).trans rfl, (cell_heap h4 6).trans rfl, (cell_heap h4 7).trans rfl, h6⟩
    · exact ⟨g, A3, k3, h1, (cell_heap h4 8).trans rfl, (cell_heap h4 9).trans rfl, (cell_heap h4 10).trans rfl, (cell_heap h4 11).trans rfl, h7⟩

/-- How deep the first kids are, looked at down to most. -/
def below_ (most : Nat) (l : List T) : Nat := l.foldl (fun b t => max b (min (most - 1) (hgt t))) 0
theorem below_le (most : Nat) (l : List T) : below_ most l ≤ most - 1 := by
  have : ∀ (l : List T) b, b ≤ most - 1 → l.foldl (fun b t => max b (min (most - 1) (hgt t))) b ≤ most - 1 := by
    intro l
    induction l with
    | nil => exact fun b h => h
    | cons t r ih => exact fun b h => ih _ (by show max b (min (most - 1) (hgt t)) ≤ most - 1; omega)
  exact this l 0 (Nat.zero_le _)
theorem below_snoc (most : Nat) (l : List T) (t : T) : below_ most (l ++ [t]) = max (below_ most l) (min (most - 1) (hgt t)) := by simp [below_, List.foldl_append]
theorem below_all (most : Nat) (t : T) (h : 1 ≤ most) : below_ most (kidsT t) + 1 = min most (hgt t) := by
  cases t <;> simp only [below_, kidsT, List.foldl, hgt] <;> omega
theorem below_stuck (most : Nat) (l : List T) (k : Nat) (h : below_ most (l.take k) = most - 1) : below_ most l = most - 1 := by
  have : ∀ (l : List T) b, b = most - 1 → l.foldl (fun b t => max b (min (most - 1) (hgt t))) b = most - 1 := by
    intro l
    induction l with
    | nil => exact fun b h => h
    | cons t r ih => exact fun b h => ih _ (by show max b (min (most - 1) (hgt t)) = most - 1; omega)
  have e : below_ most l = (l.drop k).foldl (fun b t => max b (min (most - 1) (hgt t))) (below_ most (l.take k)) := by
    unfold below_
    rw [← List.foldl_append, List.take_append_drop]
  rw [e]
  exact this _ _ h

set_option maxHeartbeats 2000000 in
theorem deep_any : ∀ (n : Nat) (t : T), sz t = n → ∀ (A : Option Addr) (c : Nat) (P : Nat → Prop) (most : Nat) (w : World), Tree w P A c t → 1 ≤ most → most ≤ 1000 →
    Calls Try.prog 41 #[.agg #[c0 t, c1 t, c2 t, .slice A (lenT t) c], .int .i64 most] w fun e w' => e = .returned (.int .i64 (min most (hgt t) : Nat)) ∧ Below w.heap.size w w' := by
  intro n
  induction n using Nat.strongRecOn with
  | _ n ih =>
    intro t hn A c P most w hT h1 h9
    have HE := hid (below_all most t h1)
    have hkl := kids_len t
    have hl3 : lenT t ≤ 3 := by cases t <;> simp [lenT]
    have hX : Var4 (w.alloc (.cells #[c0 t, c1 t, c2 t, .slice A (lenT t) c] 24)) w.heap.size (c0 t) (c1 t) (c2 t) (.slice A (lenT t) c) := heap_alloc_new _ _
    have hal : Below w.heap.size w (w.alloc (.cells #[c0 t, c1 t, c2 t, .slice A (lenT t) c] 24)) := (Below.refl _ _).alloc (Nat.le_refl _) _
    have hT0 := hT.below hal
    have x3 := hX.a3
    have hm1 : (1 : Int) ≤ (most : Int) := by omega
    have hm9 : (most : Int) ≤ 1000 := by omega
    go_enter Try.func41, Try.ntmps41
    generalize hw0 : w.alloc (.cells #[c0 t, c1 t, c2 t, .slice A (lenT t) c] 24) = w0 at *
    go_wp2
    clear hw0
    go_loopw [5, 11] (fun b i wr => ∃ k : Nat, k ≤ (kidsT t).length ∧ i = .int .i64 k ∧ b = .int .i64 (below_ most ((kidsT t).take k) : Nat) ∧ Below w.heap.size w wr ∧ Tree wr P A c t) (fun _ i _ => (kidsT t).length - (intOf i).toNat)
    case atStart => exact ⟨0, Nat.zero_le _, rfl, rfl, hal, hT0⟩
    case round =>
      obtain ⟨k, hk, rfl, rfl, hB, hTr⟩ := hrel
      have hle := below_le most ((kidsT t).take k)
      by_cases hlt : k < (kidsT t).length
      · obtain ⟨g, A1, k1, rfl, d0, d1, d2, d3, hTk⟩ := hTr.kid k hlt
        have hsn : below_ most ((kidsT t).take (k + 1)) = max (below_ most ((kidsT t).take k)) (min (most - 1) (hgt (kidsT t)[k])) := by
          rw [List.take_succ_eq_append_getElem hlt, below_snoc]
        have HST := hid (below_stuck most (kidsT t) k)
        have hg1 : (k : Int) < (lenT t : Int) := by omega
        have hszk := kids_sz t k hlt
        have cD := fun m W (hTW : Tree W P A1 k1 (kidsT t)[k]) h1 h2 => ih (sz (kidsT t)[k]) (by omega) (kidsT t)[k] rfl A1 k1 P m W hTW h1 h2
        generalize (kidsT t)[k] = tk at *
        obtain ⟨b, hb⟩ : ∃ b, below_ most ((kidsT t).take k) = b := ⟨_, rfl⟩
        rw [hb] at hsn hle HST
        rw [hb]
        have hal2 : Below wr.heap.size wr (wr.alloc (.cells #[c0 tk, c1 tk, c2 tk, .slice A1 (lenT tk) k1] 24)) := (Below.refl _ _).alloc (Nat.le_refl _) _
        have hY : Var4 (wr.alloc (.cells #[c0 tk, c1 tk, c2 tk, .slice A1 (lenT tk) k1] 24)) wr.heap.size (c0 tk) (c1 tk) (c2 tk) (.slice A1 (lenT tk) k1) := heap_alloc_new _ _
        have hTk2 := hTk.below hal2
        have hTr2 := hTr.below hal2
        have hB2 := hB.trans (hal2.mono hB.size)
        generalize hw2 : wr.alloc (.cells #[c0 tk, c1 tk, c2 tk, .slice A1 (lenT tk) k1] 24) = w2 at *
        have y0 := hY.a0; have y1 := hY.a1; have y2 := hY.a2; have y3 := hY.a3
        clear ih hn hszk hb hT hT0 hTr hTk hal
        by_cases hst : b = most - 1
        · have HF : Hid (min most (hgt t) = b + 1) := hid (by rw [← HE.out, HST.out hst, hst])
          have gst : ((b : Int) == (most : Int) - 1) = true := by simp; omega
          clear HE HST hsn cD hst
          go_wp2
          go_ret
          exact ⟨by rw [HF.out]; simp, hB2⟩
        · have gst : ((b : Int) == (most : Int) - 1) = false := by simp; omega
          have cC := cD (most - 1) w2 hTk2 (by omega) (by omega)
          rw [show ((most - 1 : Nat) : Int) = (most : Int) - 1 by omega] at cC
          have HSN := hid hsn
          clear HST hsn cD hst
          go_wp2_with (go_at_call 41; (with_reducible refine cC.mono ?_); rintro e w3 ⟨rfl, hb3⟩)
          go_roundw
          case rel => exact ⟨k + 1, by omega, by go_num, by rw [HSN.out]; simp; try omega, hB2.trans (hb3.mono hB2.size), hTr2.below hb3⟩
          case measure => simp [intOf]; omega
      · have hke : k = (kidsT t).length := by omega
        subst hke
        have HF : Hid (min most (hgt t) = below_ most (kidsT t) + 1) := hid HE.out.symm
        rw [List.take_length] at hle
        rw [List.take_length]
        have hg1 : decide (((kidsT t).length : Int) < (lenT t : Int)) = false := by simp; omega
        clear ih hn HE hT hT0 hal
        generalize below_ most (kidsT t) = b at *
        go_wp2
        go_ret
        exact ⟨by rw [HF.out]; simp, hB⟩

theorem Deep_any (t : T) (A : Option Addr) (c : Nat) (P : Nat → Prop) (w : World) (hT : Tree w P A c t) :
    Calls Try.prog 24 #[.agg #[c0 t, c1 t, c2 t, .slice A (lenT t) c]] w fun e w' => e = .returned (.int .i64 (min 1000 (hgt t) : Nat)) ∧ Below w.heap.size w w' := by
  have hX : Var4 (w.alloc (.cells #[c0 t, c1 t, c2 t, .slice A (lenT t) c] 24)) w.heap.size (c0 t) (c1 t) (c2 t) (.slice A (lenT t) c) := heap_alloc_new _ _
  have hal : Below w.heap.size w (w.alloc (.cells #[c0 t, c1 t, c2 t, .slice A (lenT t) c] 24)) := (Below.refl _ _).alloc (Nat.le_refl _) _
  have cD := deep_any (sz t) t rfl A c P 1000 _ (hT.below hal) (by omega) (by omega)
  rw [show ((1000 : Nat) : Int) = 1000 from rfl] at cD
  have x0 := hX.a0; have x1 := hX.a1; have x2 := hX.a2; have x3 := hX.a3
  generalize hm : min 1000 (hgt t) = m at *
  go_enter Try.func24, Try.ntmps24
  go_wp2_with (go_at_call 41; (with_reducible refine cD.mono ?_); rintro e w3 ⟨rfl, hb3⟩)
  go_ret
  exact ⟨rfl, hal.trans (hb3.mono hal.size)⟩
end Go.Proofs.Ytafmcogbbmncoaa
