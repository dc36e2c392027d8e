
/- Contracts: where's closure, sort.Search over any closure that only reads, tree.where, tree.kindOf. Conditions: sizes; a tree in order. -/
import Derived.Test.YtnedjpopadkdeaaDoorPgB
namespace Go.Proofs.YtnedjpopadkdeaaDoor
open Go.RowKit
open Go.Lib (hid)

set_option maxHeartbeats 1000000 in
theorem whereFn_any (tb pb : Nat) (A : Option Addr) (c : Nat) (t : List ND) (p : List UInt8) (k : Nat) (hk : k < t.length) (w : World) (h1 : w.cell? ⟨tb, 0, none⟩ = some (.slice A t.length c)) (h2 : w.cell? ⟨pb, 0, none⟩ = some (encS p)) (hT : NodesP w (fun _ => True) A t) :
    Calls Tryd.prog 69 #[.int .i64 k, .pointer (some ⟨tb, 0, none⟩), .pointer (some ⟨pb, 0, none⟩)] w fun e w' => e = .returned (.bool (!decide (t[k].p < p))) ∧ ∃ n, w' = w.drewN n := by
  obtain ⟨g, o, rfl, -, c0, -, -⟩ := hT k hk
  have hb : Op.bytesLess t[k].p p = decide (t[k].p < p) := bytesLess_eq _ _
  generalize t[k].p = x at *
  obtain ⟨b, hd⟩ : ∃ b, decide (x < p) = b := ⟨_, rfl⟩
  rw [hd] at hb ⊢
  clear hT hd
  cases b
  all_goals
    go_enter Tryd.func69, Tryd.ntmps69
    go_wp2
    go_quiet (fail)
    go_wp2
    go_ret
    exact ⟨rfl, _, rfl⟩

def SearchPost (w : World) (n : Nat) (f : Nat → Bool) (e : Ending) (w' : World) : Prop := ∃ r : Nat, e = .returned (.int .i64 r) ∧ r ≤ n ∧ (∀ k, k < r → f k = false) ∧ (r < n → f r = true) ∧ ∃ m, w' = w.drewN m
set_option maxHeartbeats 1000000 in
theorem search_any (g : Nat) (lb : Array Value) (eg : ∀ args w, (callFunc g args).run Tryd.prog w = .ok (.enter g args) w) (n : Nat) (f : Nat → Bool) (w : World) (hn : n ≤ 1099511627776)
    (hf : ∀ i j, i ≤ j → j < n → f i = true → f j = true)
    (hp : ∀ k m, k < n → Calls Tryd.prog g (#[.int .i64 k] ++ lb) (w.drewN m) fun e w' => e = .returned (.bool (f k)) ∧ ∃ n', w' = w.drewN n') :
    Calls Tryd.prog 68 #[.int .i64 n, .func (.func g) #[] lb] w (SearchPost w n f) := by
  go_enter Tryd.func68, Tryd.ntmps68
  go_wp2
  go_loopw [5, 6] (fun i j wr => ∃ a b m : Nat, i = .int .i64 a ∧ j = .int .i64 b ∧ a ≤ b ∧ b ≤ n ∧ Hid (∀ k, k < a → f k = false) ∧ Hid (∀ k, b ≤ k → k < n → f k = true) ∧ wr = w.drewN m) (fun i j _ => (intOf j - intOf i).toNat)
  case atStart => exact ⟨0, n, 0, rfl, rfl, Nat.zero_le _, Nat.le_refl _, hid (fun _ h => absurd h (Nat.not_lt_zero _)), hid (fun k h1 h2 => by omega), rfl⟩
  case round =>
    obtain ⟨a, b, m, rfl, rfl, hab, hbn, HA, HB, rfl⟩ := hrel
    by_cases hlt : a < b
    · obtain ⟨h, hh⟩ : ∃ h, (a + b) / 2 = h := ⟨_, rfl⟩
      have cP := hp h m (by omega)
      have hc : ((h : Nat) : Int) = ((a : Int) + b) / 2 := by omega
      have hlo : a ≤ h := by omega
      have hhi : h < b := by omega
      rw [hc] at cP
      have HC := hid hc
      obtain ⟨v, hv⟩ : ∃ v, f h = v := ⟨_, rfl⟩
      have HV := hid hv
      rw [hv] at cP
      have HM := hid (show ∀ i j, i ≤ j → j < n → f i = true → f j = true from hf)
      clear hp hh hc hv hf
      go_wp2_with fail
      refine cP.mono ?_
      rintro e w' ⟨rfl, m', rfl⟩
      clear cP
      cases v
      · go_wp2
        go_roundw
        case rel => exact ⟨h + 1, b, m', by rw [Int.natCast_add, HC.out]; rfl, rfl, by omega, hbn, hid (fun k hk => Bool.eq_false_iff.2 fun ht => by
          have := HM.out k h (by omega) (by omega) ht
          rw [HV.out] at this; cases this), HB, rfl⟩
        case measure => simp [intOf]; omega
      · go_wp2
        go_roundw
        case rel => exact ⟨a, h, m', rfl, by rw [HC.out], by omega, by omega, HA, hid (fun k h1 h2 => HM.out h k h1 h2 HV.out), rfl⟩
        case measure => simp [intOf]; omega
    · obtain rfl : a = b := by omega
      clear hp hf
      go_wp2
      go_ret
      exact ⟨a, rfl, hbn, HA.out, fun h => HB.out a (Nat.le_refl _) h, m, rfl⟩

theorem cell_drewN {w : World} (n : Nat) (a : Addr) : (w.drewN n).cell? a = w.cell? a := rfl
set_option maxHeartbeats 1000000 in
theorem where_any (A : Option Addr) (c : Nat) (t : List ND) (p : List UInt8) (w : World) (hT : NodesP w (fun _ => True) A t) (hl : t.length ≤ 1099511627776) (ha : Asc t) :
    Calls Tryd.prog 47 #[.slice A t.length c, encS p] w fun e w' => e = .returned (.int .i64 (whereN t p)) ∧ Below w.heap.size w w' := by
  have cS : ∀ W : World, Below w.heap.size w W → W.cell? ⟨w.heap.size, 0, none⟩ = some (.slice A t.length c) → W.cell? ⟨w.heap.size + 1, 0, none⟩ = some (encS p) →
      Calls Tryd.prog 68 #[.int .i64 t.length, .func (.func 69) #[] #[.pointer (some ⟨w.heap.size, 0, none⟩), .pointer (some ⟨w.heap.size + 1, 0, none⟩)]] W fun e w' => e = .returned (.int .i64 (whereN t p)) ∧ ∃ m, w' = W.drewN m := fun W hb h1 h2 => by
    refine (search_any 69 _ (enters_of Tryd.func69 (by kernel_rfl) rfl) t.length (fun k => if h : k < t.length then !decide (t[k].p < p) else true) W hl (fun i j hij hj hi => ?_) (fun k m hk => ?_)).mono ?_
    · simp only [hj, show i < t.length by omega, dif_pos] at hi ⊢
      have hi : ¬ t[i].p < p := by simpa using hi
      have : ¬ t[j].p < p := fun hlt => by
        by_cases e : i = j
        · subst e; exact hi hlt
        · exact hi (List.lt_trans (asc_lt ha (by omega) hj (by omega)) hlt)
      simpa using this
    · refine (whereFn_any w.heap.size (w.heap.size + 1) A c t p k hk (W.drewN m) h1 h2 (fun j hj => (hT.below hb) j hj)).mono ?_
      rintro e w' ⟨rfl, n', rfl⟩
      rw [dif_pos hk]
      exact ⟨rfl, m + n', by rw [World.drewN_drewN]⟩
    · rintro e w' ⟨r, rfl, hr, hlo, hhi, m, rfl⟩
      have e := where_eq t p r hr (fun k hk hkr => by
        have := hlo k hkr
        simp only [dif_pos hk] at this
        simpa using this) (fun hlt => by
        have := hhi hlt
        simp only [dif_pos hlt] at this
        simpa using this)
      rw [e]
      exact ⟨rfl, m, rfl⟩
  have hb2 : ∀ o o', Below w.heap.size w ((w.alloc o).alloc o') := fun o o' => ((Below.refl _ _).alloc (Nat.le_refl _) _).alloc (by simp) _
  clear hT
  go_enter Tryd.func47, Tryd.ntmps47
  go_wp2_with fail
  refine (cS _ (hb2 _ _) (by simp) (by simp)).mono ?_
  rintro e w' ⟨rfl, m, rfl⟩
  go_wp2_with fail
  go_ret
  exact ⟨rfl, below_drewN (hb2 _ _) _⟩

set_option maxHeartbeats 2000000 in
theorem kindOf_any (A : Option Addr) (c : Nat) (t : List ND) (p : List UInt8) (w : World) (hT : NodesP w (fun _ => True) A t) (hl : t.length ≤ 1099511627776) (ha : Asc t) :
    Calls Tryd.prog 48 #[.slice A t.length c, encS p] w fun e w' => e = .returned (.int .i64 (kindL t p)) ∧ Below w.heap.size w w' := by
  have cW := where_any A c t p w hT hl ha
  have hwl := where_le t p
  by_cases hp : p = [47]
  · have HK : Hid (kindL t p = 2) := hid (by unfold kindL; rw [if_pos hp])
    have q0 : (p == [47]) = true := by simpa using hp
    clear hp hT
    go_enter Tryd.func48, Tryd.ntmps48
    go_wp2_with fail
    refine cW.mono ?_
    rintro e w1 ⟨rfl, hb⟩
    have HB := hid hb
    clear hb cW
    go_wp2_with fail
    go_ret
    exact ⟨by rw [HK.out]; rfl, HB.out⟩
  have q0 : (p == [47]) = false := by simpa using hp
  rcases where_find ha p with ⟨h, h1, h2⟩ | ⟨h1, h2⟩
  · have HK : Hid (kindL t p = if t[whereN t p].d then 2 else 1) := hid (by unfold kindL; rw [if_neg hp, h2])
    obtain ⟨g, o, rfl, -, c0, c1, -⟩ := hT (whereN t p) h
    have q1 : (t[whereN t p].p == p) = true := by simpa using h1
    have q2 : ((whereN t p : Int) == (t.length : Int)) = false := by simp; omega
    generalize t[whereN t p] = x at *
    generalize whereN t p = k at *
    obtain ⟨xp, d, xx⟩ := x
    simp only at c0 c1 q1 HK
    clear hp hT h1 h2
    cases d
    all_goals
      go_enter Tryd.func48, Tryd.ntmps48
      go_wp2_with fail
      refine cW.mono ?_
      rintro e w1 ⟨rfl, hb⟩
      have a0 := cell_below hb c0; have a1 := cell_below hb c1
      have HB := hid hb
      clear hb cW c0 c1
      go_wp2_with fail
      go_ret
      exact ⟨by rw [HK.out]; rfl, HB.out⟩
  · have HK : Hid (kindL t p = 0) := hid (by unfold kindL; rw [if_neg hp, h2])
    by_cases h : whereN t p < t.length
    · have h1 := h1 h
      obtain ⟨g, o, rfl, -, c0, -, -⟩ := hT (whereN t p) h
      have q1 : (t[whereN t p].p == p) = false := by simpa using h1
      have q2 : ((whereN t p : Int) == (t.length : Int)) = false := by simp; omega
      generalize t[whereN t p] = x at *
      generalize whereN t p = k at *
      obtain ⟨xp, d, xx⟩ := x
      simp only at c0 q1
      clear hp hT h1 h2
      go_enter Tryd.func48, Tryd.ntmps48
      go_wp2_with fail
      refine cW.mono ?_
      rintro e w1 ⟨rfl, hb⟩
      have a0 := cell_below hb c0
      have HB := hid hb
      clear hb cW c0
      go_wp2_with fail
      go_ret
      exact ⟨by rw [HK.out]; rfl, HB.out⟩
    · have q2 : ((whereN t p : Int) == (t.length : Int)) = true := by simp; omega
      generalize whereN t p = k at *
      clear hp hT h1 h2
      go_enter Tryd.func48, Tryd.ntmps48
      go_wp2_with fail
      refine cW.mono ?_
      rintro e w1 ⟨rfl, hb⟩
      have HB := hid hb
      clear hb cW
      go_wp2_with fail
      go_ret
      exact ⟨by rw [HK.out]; rfl, HB.out⟩
end Go.Proofs.YtnedjpopadkdeaaDoor
