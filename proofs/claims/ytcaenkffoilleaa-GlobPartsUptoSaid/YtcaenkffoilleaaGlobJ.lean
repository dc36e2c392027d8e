/- The contract of glob.reach. Conditions: sizes of at most 2^40. -/
import Derived.Test.YtcaenkffoilleaaGlobI
import Derived.Laws.EntriesVeiled
import Derived.Deep.CutRange
namespace Go.Proofs.Ytcaenkffoilleaa
open Go.RowKit
open Go.Lib (hid)

/-- reach's variables: octet, fits, at. -/
def Vars3 (N g0 : Nat) (lb : Array Value) (a : Nat) (W : World) : Prop :=
  W.heap[N]? = some (.cells #[.func (.func g0) #[] lb] 42 (0, 0)) ∧ W.heap[N + 1]? = some (.cells #[.func (.func 26) #[] #[.pointer (some ⟨N, 0, none⟩)]] 51 (0, 0)) ∧ W.heap[N + 1 + 1]? = some (.cells #[.int .i64 a] 3 (0, 0))
theorem Vars3.below {N g0 a : Nat} {lb : Array Value} {W W' : World} (h : Vars3 N g0 lb a W) (hb : Below W.heap.size W W') : Vars3 N g0 lb a W' :=
  ⟨(hb.block _ (lt_of_block h.1)).trans h.1, (hb.block _ (lt_of_block h.2.1)).trans h.2.1, (hb.block _ (lt_of_block h.2.2)).trans h.2.2⟩

theorem Vars3.c0 {N g0 a : Nat} {lb : Array Value} {W : World} (h : Vars3 N g0 lb a W) : W.cell? ⟨N, 0, none⟩ = some (.func (.func g0) #[] lb) := cell_of_one h.1
theorem Vars3.c1 {N g0 a : Nat} {lb : Array Value} {W : World} (h : Vars3 N g0 lb a W) : W.cell? ⟨N + 1, 0, none⟩ = some (.func (.func 26) #[] #[.pointer (some ⟨N, 0, none⟩)]) := cell_of_one h.2.1
theorem Vars3.c2 {N g0 a : Nat} {lb : Array Value} {W : World} (h : Vars3 N g0 lb a W) : W.cell? ⟨N + 1 + 1, 0, none⟩ = some (.int .i64 a) := cell_of_one h.2.2
theorem Vars3.f2 {N g0 a : Nat} {lb : Array Value} {W : World} (h : Vars3 N g0 lb a W) : W.frozen? ⟨N + 1 + 1, 0, none⟩ = false := free_of_one h.2.2
theorem Vars3.set {N g0 a a' : Nat} {lb : Array Value} {W : World} (h : Vars3 N g0 lb a W) : Vars3 N g0 lb a' (W.setCell ⟨N + 1 + 1, 0, none⟩ (.int .i64 a')) :=
  ⟨(Below.heap_setCell _ _ _ _ (by show N ≠ N + 1 + 1; omega)).trans h.1, (Below.heap_setCell _ _ _ _ (by show N + 1 ≠ N + 1 + 1; omega)).trans h.2.1, one_setCell h.2.2⟩

set_option maxHeartbeats 1000000 in
theorem reach_any (g0 : Nat) (lb : Array Value) (eg : ∀ args w, (callFunc g0 args).run Try.prog w = .ok (.enter g0 args) w) (t : List UInt8) (lg : Bool) (v : Value) (r0 : List Pt) (rs : List (List Pt)) (w : World)
    (ht : t.length ≤ 1099511627776) (hrl : rs.length ≤ 1099511627776) (hl : ∀ r ∈ r0 :: rs, r.length ≤ 1099511627776) (hsp : ∀ r ∈ r0 :: rs, ∀ q ∈ r, q.spans.length ≤ 1099511627776) (hr : RunsAt w v (r0 :: rs))
    (hp : ∀ (i : Nat) (h : i < t.length) (W : World), Below w.heap.size w W → Calls Try.prog g0 (#[.int .i64 i] ++ lb) W fun e w' => e = .returned (.int .u8 t[i].toNat) ∧ W = w') :
    Calls Try.prog 19 #[v, .int .i64 t.length, .bool lg, .func (.func g0) #[] lb] w fun e w' => e = .returned (.int .i64 (optI (reachL t lg (r0 :: rs)))) ∧ Below w.heap.size w w' := by
  obtain ⟨g, cap, rfl, hc⟩ := id hr
  obtain ⟨rv0, c0, hr0⟩ := hc 0 (by simp)
  have hr0 : RunAt w rv0 r0 := hr0
  obtain ⟨A0, cap0, rfl, -⟩ := id hr0
  have hB1 : ∀ o, Below w.heap.size w (w.alloc o) := fun o => (Below.refl _ _).alloc (Nat.le_refl _) _
  have hB2 : ∀ o o', Below w.heap.size w ((w.alloc o).alloc o') := fun o o' => (hB1 o).alloc (by simp) _
  have hB3 : ∀ o o' o'', Below w.heap.size w (((w.alloc o).alloc o').alloc o'') := fun o o' o'' => below3 w o o' o''
  have d2 : ∀ o o', ((w.alloc o).alloc o').cell? ⟨g, 0, none⟩ = some (.slice A0 r0.length cap0) := fun o o' => cell_below (hB2 o o') c0
  have d3 : ∀ o o' o'', (((w.alloc o).alloc o').alloc o'').cell? ⟨g, 0, none⟩ = some (.slice A0 r0.length cap0) := fun o o' o'' => cell_below (hB3 o o' o'') c0
  have HR := hid (reachL_cons t lg r0 rs)
  have hl0 := hl r0 (by simp)
  have hV : Vars3 w.heap.size g0 lb r0.length (((w.alloc (.cells #[.func (.func g0) #[] lb] 42)).alloc (.cells #[.func (.func 26) #[] #[.pointer (some ⟨w.heap.size, 0, none⟩)]] 51)).alloc (.cells #[.int .i64 r0.length] 3)) := by
    refine ⟨?_, heap3_mid w _ _ _, ?_⟩
    · exact (Below.heap_alloc _ _ _ (by simp; omega)).trans ((Below.heap_alloc _ _ _ (by simp)).trans (heap_alloc_new w _))
    · have := heap_alloc_new ((w.alloc (.cells #[.func (.func g0) #[] lb] 42)).alloc (.cells #[.func (.func 26) #[] #[.pointer (some ⟨w.heap.size, 0, none⟩)]] 51)) (.cells #[.int .i64 r0.length] 3)
      rwa [World.size_alloc, World.size_alloc] at this
  have hBW := hB3 (.cells #[.func (.func g0) #[] lb] 42) (.cells #[.func (.func 26) #[] #[.pointer (some ⟨w.heap.size, 0, none⟩)]] 51) (.cells #[.int .i64 r0.length] 3)
  have hgW := d3 (.cells #[.func (.func g0) #[] lb] 42) (.cells #[.func (.func 26) #[] #[.pointer (some ⟨w.heap.size, 0, none⟩)]] 51) (.cells #[.int .i64 r0.length] 3)
  by_cases hbig : t.length < r0.length
  · have HN : Hid (reachL t lg (r0 :: rs) = none) := hid (by rw [HR.out, if_neg]; simp; omega)
    have g1 : decide ((t.length : Int) < (r0.length : Int)) = true := by simpa using hbig
    clear HR hp hc
    go_enter Try.func19, Try.ntmps19
    go_wp2_with fail
    clear d2 d3 hB1 hB2 hB3
    generalize ((w.alloc (.cells #[.func (.func g0) #[] lb] 42)).alloc (.cells #[.func (.func 26) #[] #[.pointer (some ⟨w.heap.size, 0, none⟩)]] 51)).alloc (.cells #[.int .i64 r0.length] 3) = W3 at *
    have k2 := hV.c2
    go_quiet (fail)
    go_wp2
    go_ret
    exact ⟨by rw [HN.out]; rfl, below_drewN hBW _⟩
  · have g1 : decide ((t.length : Int) < (r0.length : Int)) = false := by simpa using hbig
    have cF := fun W (hBx : Below w.heap.size w W) (hbo : W.cell? ⟨w.heap.size, 0, none⟩ = some (.func (.func g0) #[] lb)) => fits_any g0 lb eg t (.slice A0 r0.length cap0) r0 0 w.heap.size W ht (by omega) (hsp r0 (by simp)) (hr0.below hBx) hbo (fun i hi W' hB' => hp i hi W' (hBx.trans (hB'.mono hBx.size)))
    rw [show ((0 : Nat) : Int) = 0 from rfl] at cF
    have eg1 := enters_of Try.func26 (by kernel_rfl) rfl
    cases hfit : fitsAt t r0 0
    · have HN : Hid (reachL t lg (r0 :: rs) = none) := hid (by rw [HR.out, hfit]; simp)
      rw [hfit] at cF
      clear HR hp hc hfit
      go_enter Try.func19, Try.ntmps19
      go_wp2_with fail
      clear d2 d3 hB1 hB2 hB3
      generalize ((w.alloc (.cells #[.func (.func g0) #[] lb] 42)).alloc (.cells #[.func (.func 26) #[] #[.pointer (some ⟨w.heap.size, 0, none⟩)]] 51)).alloc (.cells #[.int .i64 r0.length] 3) = W3 at *
      have k0 := hV.c0
      have k1 := hV.c1
      have k2 := hV.c2
      go_region_held3 (fun w' => w'.cell? ⟨w.heap.size + 1 + 1, 0, none⟩ = some (.int .i64 r0.length) ∧ w'.cell? ⟨w.heap.size + 1, 0, none⟩ = some (.func (.func 26) #[] #[.pointer (some ⟨w.heap.size, 0, none⟩)]) ∧ w'.cell? ⟨g, 0, none⟩ = some (.slice A0 r0.length cap0))
        (first | go_keep | exact ⟨cell_below hb1 k2, cell_below hb1 k1, cell_below hb1 hgW⟩)
        (first | (go_at_call 26; refine (cF _ hBW.drew k0).mono ?_; rintro e w1 ⟨rfl, hb1⟩))
      go_wp2
      go_ret
      exact ⟨by rw [HN.out]; rfl, hBW.drew.trans (hb1.mono hBW.size)⟩
    · have HG : Hid (reachL t lg (r0 :: rs) = goR t lg (rs.drop 0) r0.length) := hid (by rw [HR.out, hfit, if_pos (by simp; omega)]; rfl)
      rw [hfit] at cF
      clear HR hfit
      go_enter Try.func19, Try.ntmps19
      go_wp2_with fail
      clear d2 d3 hB1 hB2 hB3
      generalize ((w.alloc (.cells #[.func (.func g0) #[] lb] 42)).alloc (.cells #[.func (.func 26) #[] #[.pointer (some ⟨w.heap.size, 0, none⟩)]] 51)).alloc (.cells #[.int .i64 r0.length] 3) = W3 at *
      have k0 := hV.c0
      have k1 := hV.c1
      have k2 := hV.c2
      go_region_held3 (fun w' => w'.cell? ⟨w.heap.size + 1 + 1, 0, none⟩ = some (.int .i64 r0.length) ∧ w'.cell? ⟨w.heap.size + 1, 0, none⟩ = some (.func (.func 26) #[] #[.pointer (some ⟨w.heap.size, 0, none⟩)]) ∧ w'.cell? ⟨g, 0, none⟩ = some (.slice A0 r0.length cap0))
        (first | go_keep | exact ⟨cell_below hb1 k2, cell_below hb1 k1, cell_below hb1 hgW⟩)
        (first | (go_at_call 26; refine (cF _ hBW.drew k0).mono ?_; rintro e w1 ⟨rfl, hb1⟩))
      have hV1 : Vars3 w.heap.size g0 lb r0.length w1 := Vars3.below (show Vars3 w.heap.size g0 lb r0.length W3.drew from hV) hb1
      have hBw1 : Below w.heap.size w w1 := hBW.drew.trans (hb1.mono hBW.size)
      have hr00 : r0.length ≤ t.length := by omega
      clear hb1 hBW hV k0 k1 k2 hgW cF g1
      go_wp2_with fail
      go_loopw [35] (fun i wr => ∃ k a : Nat, k ≤ rs.length ∧ a ≤ t.length ∧ i = .int .i64 k ∧ Below w.heap.size w wr ∧ Vars3 w.heap.size g0 lb a wr ∧ Hid (reachL t lg (r0 :: rs) = goR t lg (rs.drop k) a)) (fun i _ => rs.length - (intOf i).toNat)
      case atStart => exact ⟨0, r0.length, Nat.zero_le _, hr00, rfl, hBw1, hV1, HG⟩
      case round =>
        obtain ⟨k, a, hk, hat, rfl, hB, hVk, HE⟩ := hrel
        by_cases hlt : k < rs.length
        · obtain ⟨rv, c1, hrv⟩ := hc (k + 1) (by simp; omega)
          have hrv : RunAt w rv rs[k] := hrv
          obtain ⟨Ar, capr, rfl, -⟩ := id hrv
          have hlr := hl rs[k] (List.mem_cons_of_mem _ (List.getElem_mem hlt))
          have e1 := cell_below hB c1
          have k2 := cell_alloc hVk.c2
          have hal : Below wr.heap.size wr (wr.alloc (.cells #[.slice Ar rs[k].length capr] 44)) := (Below.refl _ _).alloc (Nat.le_refl _) _
          have hVa : Vars3 w.heap.size g0 lb a (wr.alloc (.cells #[.slice Ar rs[k].length capr] 44)) := hVk.below hal
          have hBa : Below w.heap.size w (wr.alloc (.cells #[.slice Ar rs[k].length capr] 44)) := hB.trans (hal.mono hB.size)
          have hbr : (wr.alloc (.cells #[.slice Ar rs[k].length capr] 44)).cell? ⟨wr.heap.size, 0, none⟩ = some (.slice Ar rs[k].length capr) := cell_of_one (heap_alloc_new wr _)
          have cP := place_any 29 #[.pointer (some ⟨w.heap.size + 1, 0, none⟩), .pointer (some ⟨wr.heap.size, 0, none⟩), .pointer (some ⟨w.heap.size + 1 + 1, 0, none⟩)] (enters_of Try.func29 (by kernel_rfl) rfl)
            (t.length + 1 - (a + rs[k].length)) (lg && (rs.drop (k + 1)).isEmpty) (fun j => fitsAt t rs[k] (a + j)) (wr.alloc (.cells #[.slice Ar rs[k].length capr] 44)) (by omega) (fun j W hj hW =>
              here_any t (.slice Ar rs[k].length capr) rs[k] a j w.heap.size (w.heap.size + 1) wr.heap.size (w.heap.size + 1 + 1) g0 lb eg W ht (by omega) (hsp _ (List.mem_cons_of_mem _ (List.getElem_mem hlt))) (hrv.below (hBa.trans (hW.mono hBa.size))) (cell_below hW hVa.c0) (cell_below hW hVa.c1) (cell_below hW hbr) (cell_below hW hVa.c2)
                (fun i hi W' hB' => hp i hi W' ((hBa.trans (hW.mono hBa.size)).trans (hB'.mono (Nat.le_trans hBa.size hW.size)))))
          have hmx : ((t.length + 1 - (a + rs[k].length) : Nat) : Int) = max 0 ((t.length : Int) - (a : Int) - (rs[k].length : Int) + 1) := by omega
          rw [hmx] at cP
          have hdk : rs.drop k = rs[k] :: rs.drop (k + 1) := List.drop_eq_getElem_cons hlt
          have HS : Hid (reachL t lg (r0 :: rs) = match placeL (t.length + 1 - (a + rs[k].length)) (lg && (rs.drop (k + 1)).isEmpty) (fun j => fitsAt t rs[k] (a + j)) with | none => none | some m => goR t lg (rs.drop (k + 1)) (a + m + rs[k].length)) := hid (by rw [HE.out, hdk]; rfl)
          have hgot : ∀ m, placeL (t.length + 1 - (a + rs[k].length)) (lg && (rs.drop (k + 1)).isEmpty) (fun j => fitsAt t rs[k] (a + j)) = some m → a + m + rs[k].length ≤ t.length := fun m hm => by
            have := (placeL_got hm).1
            omega
          have hl1 : (true && (rs.drop (k + 1)).isEmpty) = ((k : Int) == (rs.length : Int) + 1 - 2) := by
            rw [Bool.true_and, Bool.eq_iff_iff, List.isEmpty_iff, List.drop_eq_nil_iff]
            simp only [beq_iff_eq]
            omega
          have hl0 : (false && (rs.drop (k + 1)).isEmpty) = false := rfl
          generalize placeL (t.length + 1 - (a + rs[k].length)) (lg && (rs.drop (k + 1)).isEmpty) (fun j => fitsAt t rs[k] (a + j)) = p at *
          clear HG hV1 hBw1 HE hdk hmx hrv hc hp hal hVk hr hr0 c1
          cases p with
          | none =>
            have HN : Hid (reachL t lg (r0 :: rs) = none) := hid HS.out
            change Calls _ _ _ _ (fun e w' => e = .returned (.int .i64 (-1)) ∧ _) at cP
            clear HS hgot
            cases lg
            · rw [hl0] at cP
              clear hl0 hl1
              go_wp2_with (go_at_call 28; refine cP.mono ?_; rintro e wp ⟨rfl, hbp⟩; have hVp := hVa.below hbp; have m2 := hVp.c2; have mf := hVp.f2; have mr := cell_below hbp hbr)
              go_ret
              exact ⟨by rw [HN.out]; rfl, hBa.trans (hbp.mono hBa.size)⟩
            · rw [hl1] at cP
              clear hl0 hl1
              go_wp2_with (go_at_call 28; refine cP.mono ?_; rintro e wp ⟨rfl, hbp⟩; have hVp := hVa.below hbp; have m2 := hVp.c2; have mf := hVp.f2; have mr := cell_below hbp hbr)
              go_ret
              exact ⟨by rw [HN.out]; rfl, hBa.trans (hbp.mono hBa.size)⟩
          | some m =>
            have HN : Hid (reachL t lg (r0 :: rs) = goR t lg (rs.drop (k + 1)) (a + m + rs[k].length)) := hid HS.out
            have hm := hgot m rfl
            change Calls _ _ _ _ (fun e w' => e = .returned (.int .i64 (m : Int)) ∧ _) at cP
            clear HS hgot
            cases lg
            · rw [hl0] at cP
              clear hl0 hl1
              go_wp2_with (go_at_call 28; refine cP.mono ?_; rintro e wp ⟨rfl, hbp⟩; have hVp := hVa.below hbp; have m2 := hVp.c2; have mf := hVp.f2; have mr := cell_below hbp hbr)
              have hVn : Vars3 w.heap.size g0 lb (a + m + rs[k].length) (wp.setCell ⟨w.heap.size + 1 + 1, 0, none⟩ (.int .i64 ((a : Int) + ((m : Int) + (rs[k].length : Int))))) := by
                have h := hVp.set (a' := a + m + rs[k].length)
                rwa [show ((a + m + rs[k].length : Nat) : Int) = (a : Int) + ((m : Int) + (rs[k].length : Int)) by omega] at h
              have hBn : Below w.heap.size w (wp.setCell ⟨w.heap.size + 1 + 1, 0, none⟩ (.int .i64 ((a : Int) + ((m : Int) + (rs[k].length : Int))))) := (hBa.trans (hbp.mono hBa.size)).setCell (by show w.heap.size ≤ w.heap.size + 1 + 1; omega) _
              go_roundw
              case rel => exact ⟨k + 1, a + m + rs[k].length, by omega, hm, by go_num, hBn, hVn, HN⟩
              case measure => simp [intOf]; omega
            · rw [hl1] at cP
              clear hl0 hl1
              go_wp2_with (go_at_call 28; refine cP.mono ?_; rintro e wp ⟨rfl, hbp⟩; have hVp := hVa.below hbp; have m2 := hVp.c2; have mf := hVp.f2; have mr := cell_below hbp hbr)
              have hVn : Vars3 w.heap.size g0 lb (a + m + rs[k].length) (wp.setCell ⟨w.heap.size + 1 + 1, 0, none⟩ (.int .i64 ((a : Int) + ((m : Int) + (rs[k].length : Int))))) := by
                have h := hVp.set (a' := a + m + rs[k].length)
                rwa [show ((a + m + rs[k].length : Nat) : Int) = (a : Int) + ((m : Int) + (rs[k].length : Int)) by omega] at h
              have hBn : Below w.heap.size w (wp.setCell ⟨w.heap.size + 1 + 1, 0, none⟩ (.int .i64 ((a : Int) + ((m : Int) + (rs[k].length : Int))))) := (hBa.trans (hbp.mono hBa.size)).setCell (by show w.heap.size ≤ w.heap.size + 1 + 1; omega) _
              go_roundw
              case rel => exact ⟨k + 1, a + m + rs[k].length, by omega, hm, by go_num, hBn, hVn, HN⟩
              case measure => simp [intOf]; omega
        · have HN : Hid (reachL t lg (r0 :: rs) = some a) := hid (by rw [HE.out, List.drop_of_length_le (by omega)]; rfl)
          have k2 := hVk.c2
          clear HE hp hc HG
          go_wp2
          go_ret
          exact ⟨by rw [HN.out]; rfl, hB⟩
end Go.Proofs.Ytcaenkffoilleaa
