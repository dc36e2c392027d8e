/- Contracts of glob.reach's closures and of glob.place. Conditions: sizes of at most 2^40. -/
import Derived.Test.YtcaenkffoilleaaGlobG
import Derived.Deep.RegionHeld3
namespace Go.Proofs.Ytcaenkffoilleaa
open Go.RowKit
open Go.Lib (hid)

/-- A run, and runs, as they are read. -/
def RunAt (W : World) (rv : Value) (ps : List Pt) : Prop := ∃ A cap, rv = .slice A ps.length cap ∧ ∀ k (h : k < ps.length), ∃ g sA sc, A = some ⟨g, 0, none⟩ ∧ W.cell? ⟨g, k * 3, none⟩ = some (.bool ps[k].star) ∧ W.cell? ⟨g, k * 3 + 1, none⟩ = some (.bool ps[k].neg) ∧
  W.cell? ⟨g, k * 3 + 2, none⟩ = some (.slice sA ps[k].spans.length sc) ∧ SpAt W (.slice sA ps[k].spans.length sc) ps[k].spans
def RunsAt (W : World) (v : Value) (rss : List (List Pt)) : Prop := ∃ g cap, v = .slice (some ⟨g, 0, none⟩) rss.length cap ∧ ∀ k (h : k < rss.length), ∃ rv, W.cell? ⟨g, k, none⟩ = some rv ∧ RunAt W rv rss[k]
theorem RunAt.below {W W' : World} {rv : Value} {ps : List Pt} (h : RunAt W rv ps) (hb : Below W.heap.size W W') : RunAt W' rv ps := by
  obtain ⟨A, cap, e, hk⟩ := h
  refine ⟨A, cap, e, fun k hk' => ?_⟩
  obtain ⟨g, sA, sc, h1, h2, h3, h4, h5⟩ := hk k hk'
  exact ⟨g, sA, sc, h1, cell_below hb h2, cell_below hb h3, cell_below hb h4, h5.below hb⟩
theorem RunsAt.below {W W' : World} {v : Value} {rss : List (List Pt)} (h : RunsAt W v rss) (hb : Below W.heap.size W W') : RunsAt W' v rss := by
  obtain ⟨g, cap, e, hk⟩ := h
  refine ⟨g, cap, e, fun k hk' => ?_⟩
  obtain ⟨rv, h1, h2⟩ := hk k hk'
  exact ⟨rv, cell_below hb h1, h2.below hb⟩

theorem fits_step (t : List UInt8) (ps : List Pt) (a k : Nat) (hk : k < ps.length) (ha : a + ps.length ≤ t.length) :
    fx (ps.drop k) ((t.drop (a + k)).take (ps.length - k)) = (ps[k].takes (t[a + k]'(by omega)) && fx (ps.drop (k + 1)) ((t.drop (a + (k + 1))).take (ps.length - (k + 1)))) := by
  rw [List.drop_eq_getElem_cons hk, List.drop_eq_getElem_cons (i := a + k) (l := t) (by omega), show ps.length - k = (ps.length - (k + 1)) + 1 by omega, List.take_succ_cons]
  rfl

set_option maxHeartbeats 4000000 in
theorem fits_any (g0 : Nat) (lb : Array Value) (eg : ∀ args w, (callFunc g0 args).run Try.prog w = .ok (.enter g0 args) w) (t : List UInt8) (rv : Value) (ps : List Pt) (a Bo : Nat) (w : World)
    (ht : t.length ≤ 1099511627776) (ha : a + ps.length ≤ t.length) (hsp : ∀ q ∈ ps, q.spans.length ≤ 1099511627776) (hr : RunAt w rv ps) (hbo : w.cell? ⟨Bo, 0, none⟩ = some (.func (.func g0) #[] lb))
    (hp : ∀ (i : Nat) (h : i < t.length) (W : World), Below w.heap.size w W → Calls Try.prog g0 (#[.int .i64 i] ++ lb) W fun e w' => e = .returned (.int .u8 t[i].toNat) ∧ W = w') :
    Calls Try.prog 26 (#[rv, .int .i64 a] ++ #[.pointer (some ⟨Bo, 0, none⟩)]) w fun e w' => e = .returned (.bool (fitsAt t ps a)) ∧ Below w.heap.size w w' := by
  obtain ⟨A, cap, rfl, hc⟩ := id hr
  have HF : Hid (fitsAt t ps a = fx (ps.drop 0) ((t.drop (a + 0)).take (ps.length - 0))) := hid rfl
  go_enter Try.func26, Try.ntmps26
  go_wp2
  go_loopw [9] (fun i wr => ∃ k : Nat, k ≤ ps.length ∧ i = .int .i64 k ∧ Below w.heap.size w wr ∧ Hid (fitsAt t ps a = fx (ps.drop k) ((t.drop (a + k)).take (ps.length - k)))) (fun i _ => ps.length - (intOf i).toNat)
  case atStart => exact ⟨0, Nat.zero_le _, rfl, Below.refl _ _, HF⟩
  case round =>
    obtain ⟨k, hk, rfl, hB, HE⟩ := hrel
    clear HF
    by_cases hlt : k < ps.length
    · obtain ⟨g, sA, sc, rfl, c0, c1, c2, h5⟩ := hc k hlt
      have hst := fits_step t ps a k hlt ha
      have hi : a + k < t.length := by omega
      have cO := fun W (hBW : Below w.heap.size w W) => hp (a + k) hi W hBW
      have cT := fun W (hBW : Below w.heap.size w W) => takes_any ps[k] (.slice sA ps[k].spans.length sc) t[a + k] W (hsp _ (List.getElem_mem hlt)) (h5.below hBW)
      have d0 := cell_below hB c0
      have d1 := cell_below hB c1
      have d2 := cell_below hB c2
      have d3 := cell_below hB hbo
      have hk0 : (0 : Int) ≤ (k : Int) := by omega
      have hk1 : (k : Int) < (ps.length : Int) := by omega
      have hcast : ((a + k : Nat) : Int) = (a : Int) + (k : Int) := by omega
      have hwr : IntKind.i64.wrap ((a : Int) + (k : Int)) = (a : Int) + (k : Int) := by rw [IntKind.wrap_i64]; omega
      rw [hcast] at cO
      clear hp hc h5 hcast c0 c1 c2 hr hbo
      cases hv : ps[k].takes t[a + k]
      · have HN : Hid (fitsAt t ps a = false) := hid (by rw [HE.out, hst, hv]; rfl)
        rw [hv] at cT
        clear hv hst HE
        go_wp2_with fail
        go_region_held3 (fun w' => w'.cell? ⟨g, k * 3, none⟩ = some (.bool ps[k].star) ∧ w'.cell? ⟨g, k * 3 + 1, none⟩ = some (.bool ps[k].neg) ∧ w'.cell? ⟨g, k * 3 + 2, none⟩ = some (.slice sA ps[k].spans.length sc) ∧ w'.cell? ⟨Bo, 0, none⟩ = some (.func (.func g0) #[] lb))
          (first | go_keep | exact ⟨cell_below hb1 d0, cell_below hb1 d1, cell_below hb1 d2, cell_below hb1 d3⟩)
          (first | (go_at_fn g0; refine (cO _ hB.drew).mono ?_; rintro e w' ⟨rfl, rfl⟩) | (go_at_call 27; refine (cT _ hB.drew).mono ?_; rintro e w1 ⟨rfl, hb1⟩))
        go_wp2
        go_ret
        exact ⟨by rw [HN.out]; rfl, hB.drew.trans (hb1.mono hB.size)⟩
      · have HN : Hid (fitsAt t ps a = fx (ps.drop (k + 1)) ((t.drop (a + (k + 1))).take (ps.length - (k + 1)))) := hid (by rw [HE.out, hst, hv]; rfl)
        rw [hv] at cT
        clear hv hst HE
        go_wp2_with fail
        go_region_held3 (fun w' => w'.cell? ⟨g, k * 3, none⟩ = some (.bool ps[k].star) ∧ w'.cell? ⟨g, k * 3 + 1, none⟩ = some (.bool ps[k].neg) ∧ w'.cell? ⟨g, k * 3 + 2, none⟩ = some (.slice sA ps[k].spans.length sc) ∧ w'.cell? ⟨Bo, 0, none⟩ = some (.func (.func g0) #[] lb))
          (first | go_keep | exact ⟨cell_below hb1 d0, cell_below hb1 d1, cell_below hb1 d2, cell_below hb1 d3⟩)
          (first | (go_at_fn g0; refine (cO _ hB.drew).mono ?_; rintro e w' ⟨rfl, rfl⟩) | (go_at_call 27; refine (cT _ hB.drew).mono ?_; rintro e w1 ⟨rfl, hb1⟩))
        go_wp2
        go_roundw
        case rel => exact ⟨k + 1, by omega, by go_num, hB.drew.trans (hb1.mono hB.size), HN⟩
        case measure => simp [intOf]; omega
    · have HN : Hid (fitsAt t ps a = true) := hid (by rw [HE.out, List.drop_of_length_le (by omega), show ps.length - k = 0 by omega, List.take_zero]; rfl)
      clear HE hp hc hr
      go_wp2
      go_ret
      exact ⟨by rw [HN.out]; rfl, hB⟩

set_option maxHeartbeats 400000 in
theorem place_any (g : Nat) (lb : Array Value) (eg : ∀ args w, (callFunc g args).run Try.prog w = .ok (.enter g args) w) (n : Nat) (last : Bool) (so : Nat → Bool) (w : World) (hn : n ≤ 1099511627777)
    (hp : ∀ (j : Nat) (W : World), j < n → Below w.heap.size w W → Calls Try.prog g (#[.int .i64 j] ++ lb) W fun e w' => e = .returned (.bool (so j)) ∧ Below W.heap.size W w') :
    Calls Try.prog 28 #[.int .i64 n, .bool last, .func (.func g) #[] lb] w fun e w' => e = .returned (.int .i64 (optI (placeL n last so))) ∧ Below w.heap.size w w' := by
  go_enter Try.func28, Try.ntmps28
  go_wp2
  go_loopw [9] (fun i wr => ∃ k : Nat, k ≤ n ∧ i = .int .i64 k ∧ Below w.heap.size w wr ∧ Hid (∀ i, i < k → so (pick n last i) = false)) (fun i _ => n - (intOf i).toNat)
  case atStart => exact ⟨0, Nat.zero_le _, rfl, Below.refl _ _, hid (fun i hi => by omega)⟩
  case round =>
    obtain ⟨k, hk, rfl, hB, HE⟩ := hrel
    by_cases hlt : k < n
    · have cS := hp (pick n last k) wr (pick_inv last hlt).2 hB
      clear hp
      cases hv : so (pick n last k)
      · have HN : Hid (∀ i, i < k + 1 → so (pick n last i) = false) := hid (fun i hi => by
          rcases Nat.lt_or_ge i k with h | h
          · exact HE.out i h
          · rw [show i = k by omega]; exact hv)
        rw [hv] at cS
        clear hv HE
        cases last
        · rw [show ((pick n false k : Nat) : Int) = (k : Int) by simp [pick]] at cS
          go_wp2_with (go_at_fn g; refine cS.mono ?_; rintro e w1 ⟨rfl, hb1⟩)
          go_roundw
          case rel => exact ⟨k + 1, by omega, by go_num, hB.trans (hb1.mono hB.size), HN⟩
          case measure => simp [intOf]; omega
        · rw [show ((pick n true k : Nat) : Int) = (n : Int) - 1 - (k : Int) by simp only [pick, if_true]; omega] at cS
          go_wp2_with (go_at_fn g; refine cS.mono ?_; rintro e w1 ⟨rfl, hb1⟩)
          go_roundw
          case rel => exact ⟨k + 1, by omega, by go_num, hB.trans (hb1.mono hB.size), HN⟩
          case measure => simp [intOf]; omega
      · have HN := hid (placeL_some hlt HE.out hv)
        rw [hv] at cS
        clear hv HE
        cases last
        · have HP0 : Hid (optI (placeL n false so) = (k : Int)) := hid (by rw [HN.out]; simp [optI, pick])
          rw [show ((pick n false k : Nat) : Int) = (k : Int) by simp [pick]] at cS
          clear HN
          go_wp2_with (go_at_fn g; refine cS.mono ?_; rintro e w1 ⟨rfl, hb1⟩)
          go_ret
          exact ⟨by rw [HP0.out]; rfl, hB.trans (hb1.mono hB.size)⟩
        · have HP : Hid (optI (placeL n true so) = (n : Int) - 1 - (k : Int)) := hid (by rw [HN.out]; simp only [optI, pick, if_true]; omega)
          rw [show ((pick n true k : Nat) : Int) = (n : Int) - 1 - (k : Int) by simp only [pick, if_true]; omega] at cS
          clear HN
          go_wp2_with (go_at_fn g; refine cS.mono ?_; rintro e w1 ⟨rfl, hb1⟩)
          go_ret
          exact ⟨by rw [HP.out]; rfl, hB.trans (hb1.mono hB.size)⟩
    · have HN : Hid (placeL n last so = none) := hid (placeL_none (fun i hi => HE.out i (by omega)))
      clear HE hp
      go_wp2
      go_ret
      exact ⟨by rw [HN.out]; rfl, hB⟩

set_option maxHeartbeats 400000 in
theorem here_any (t : List UInt8) (rv : Value) (ps : List Pt) (a j Bo Bf Br Ba g0 : Nat) (lb : Array Value) (eg : ∀ args w, (callFunc g0 args).run Try.prog w = .ok (.enter g0 args) w) (w : World)
    (ht : t.length ≤ 1099511627776) (ha : a + j + ps.length ≤ t.length) (hsp : ∀ q ∈ ps, q.spans.length ≤ 1099511627776) (hr : RunAt w rv ps) (hbo : w.cell? ⟨Bo, 0, none⟩ = some (.func (.func g0) #[] lb))
    (hbf : w.cell? ⟨Bf, 0, none⟩ = some (.func (.func 26) #[] #[.pointer (some ⟨Bo, 0, none⟩)])) (hbr : w.cell? ⟨Br, 0, none⟩ = some rv) (hba : w.cell? ⟨Ba, 0, none⟩ = some (.int .i64 a))
    (hp : ∀ (i : Nat) (h : i < t.length) (W : World), Below w.heap.size w W → Calls Try.prog g0 (#[.int .i64 i] ++ lb) W fun e w' => e = .returned (.int .u8 t[i].toNat) ∧ W = w') :
    Calls Try.prog 29 (#[.int .i64 j] ++ #[.pointer (some ⟨Bf, 0, none⟩), .pointer (some ⟨Br, 0, none⟩), .pointer (some ⟨Ba, 0, none⟩)]) w fun e w' => e = .returned (.bool (fitsAt t ps (a + j))) ∧ Below w.heap.size w w' := by
  have cF := fits_any g0 lb eg t rv ps (a + j) Bo w ht ha hsp hr hbo hp
  rw [show ((a + j : Nat) : Int) = (a : Int) + (j : Int) by omega] at cF
  have eg1 := enters_of Try.func26 (by kernel_rfl) rfl
  obtain ⟨A, cap, rfl, _⟩ := id hr
  clear hp hr
  go_enter Try.func29, Try.ntmps29
  go_wp2_with (go_at_call 26; refine cF.mono ?_; rintro e w1 ⟨rfl, hb1⟩)
  go_ret
  exact ⟨rfl, hb1⟩
end Go.Proofs.Ytcaenkffoilleaa
