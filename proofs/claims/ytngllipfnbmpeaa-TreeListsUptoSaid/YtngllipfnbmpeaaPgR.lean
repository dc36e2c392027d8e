/- tree.Get, tree.Kind. Conditions: sizes. -/
import Derived.Test.YtngllipfnbmpeaaPgQ
namespace Go.Proofs.Ytngllipfnbmpeaa
open Go.RowKit
open Go.Lib (hid)

def GetR (N rb : Nat) (w0 : World) (q : List UInt8 × Int) (n : Int) (W' : World) : Prop := n = q.2 ∧ W'.heap[rb]? = some (.cells #[encS q.1] 9 (0, 0)) ∧ Below N w0 W'
theorem getR_nil {N rb : Nat} {w0 W' : World} {q : List UInt8 × Int} {f : Int} (hq : q = ([], f)) (h4 : W'.heap[rb]? = some (.cells #[.string ⟨#[]⟩] 9 (0, 0))) (hB : Below N w0 W') : AtPost (GetR N rb w0 q) (.returned (.int .i64 f)) W' := by
  subst hq
  exact ⟨f, rfl, rfl, h4, hB⟩

set_option maxRecDepth 100000 in
set_option maxHeartbeats 4000000 in
theorem getFn (A : Option Addr) (c : Nat) (t : List ND) (p : List UInt8) (tb rb N : Nat) (w0 W : World) (hN : N ≤ rb) (h1 : W.heap[tb]? = some (.cells #[.slice A t.length c] 22 (0, 0))) (h4 : W.heap[rb]? = some (.cells #[.string ⟨#[]⟩] 9 (0, 0)))
    (hB : Below N w0 W) (hT : NodesP W (fun _ => True) A t) (hok : OkT t) (ha : askQ t p = (pathL p, 0)) :
    Calls Try.prog 29 #[.agg #[encS (pathL p), .int .i64 (whereN t (pathL p)), .int .i64 (kindL t (pathL p))], .pointer (some ⟨tb, 0, none⟩), .pointer (some ⟨rb, 0, none⟩)] W (AtPost (GetR N rb w0 (getQ t p))) := by
  have hNW : N ≤ W.heap.size := by have := lt_of_block h4; omega
  obtain ⟨P, hP⟩ : ∃ P, pathL p = P := ⟨_, rfl⟩
  have hq : getQ t p = if kindL t P = 0 then ([], 71) else if kindL t P = 2 then ([], 15) else (((findN t P).map (·.x)).getD [], 0) := by unfold getQ; rw [ha, ← hP]; simp
  rw [hP]
  obtain ⟨W1, hW1⟩ : ∃ W1, W.alloc (.cells #[encS P, .int .i64 (whereN t P), .int .i64 (kindL t P)] 51) = W1 := ⟨_, rfl⟩
  have hal : Below W.heap.size W W1 := by rw [← hW1]; exact (Below.refl _ _).alloc (Nat.le_refl _) _
  have hsp : W1.heap[W.heap.size]? = some (.cells #[encS P, .int .i64 (whereN t P), .int .i64 (kindL t P)] 51 (0, 0)) := by rw [← hW1]; exact heap_alloc_new _ _
  have g1 := heap_below' h1 hal; have g4 := heap_below' h4 hal
  have hT1 := hT.below hal
  have hB1 := hB.trans (hal.mono hNW)
  have x1 : W1.cell? ⟨W.heap.size, 1, none⟩ = some (.int .i64 (whereN t P)) := by simp [World.cell?, hsp]
  have x2 : W1.cell? ⟨W.heap.size, 2, none⟩ = some (.int .i64 (kindL t P)) := by simp [World.cell?, hsp]
  have y1 := cell_of_one g1
  by_cases hK : kindL t P = 2
  · have HQ : Hid (getQ t p = ([], 15)) := hid (by rw [hq, hK]; rfl)
    rw [hK] at x2 hW1 ⊢
    have HF := hid (And.intro g4 hB1)
    clear hT hT1 hok hK g1 g4 h1 h4 hsp hB hB1 y1 x1 ha hq hP
    go_enter Try.func29, Try.ntmps29
    go_wp2
    go_ret
    exact getR_nil HQ.out HF.out.1 HF.out.2
  rcases old_cases hok.asc hK with ⟨hK0, hf, ho⟩ | ⟨hK1, hw, hf, ho⟩
  · have HQ : Hid (getQ t p = ([], 71)) := hid (by rw [hq, hK0]; rfl)
    rw [hK0] at x2 hW1 ⊢
    have HF := hid (And.intro g4 hB1)
    clear hT hT1 hok hK hK0 hf ho g1 g4 h1 h4 hsp hB hB1 y1 x1 ha hq hP
    go_enter Try.func29, Try.ntmps29
    go_wp2
    go_ret
    exact getR_nil HQ.out HF.out.1 HF.out.2
  · have HQ : Hid (getQ t p = (t[whereN t P].x, 0)) := hid (by rw [hq, hK1, hf]; rfl)
    obtain ⟨g, o, rfl, -, -, -, c2⟩ := hT1 (whereN t P) hw
    have hxl := okT_x hok (List.getElem_mem hw)
    generalize t[whereN t P].x = nx at *
    have cC := fun W => clone_any nx (by omega) W
    rw [hK1] at x2 hW1 ⊢
    have hNW1 := hal.size
    clear hT hT1 hok hK hK1 hf ho g1 h1 h4 hsp hB ha hq hP
    go_enter Try.func29, Try.ntmps29
    go_wp2_with fail
    refine (cC _).mono ?_
    rintro e w2 ⟨rfl, hb2⟩
    have g5 := heap_below' g4 hb2
    have e0 := cell_of_one g5; have f0 := free_of_one g5
    have HF := hid (And.intro (one_setCell (u := encS nx) g5) ((hB1.trans (hb2.mono (Nat.le_trans hNW hNW1))).setCell (p := ⟨rb, 0, none⟩) hN (encS nx)))
    clear hb2 cC g4 g5 hB1
    go_wp2
    go_ret
    rw [HQ.out]
    exact ⟨0, rfl, rfl, HF.out.1, HF.out.2⟩

theorem two_boxes (w : World) (o0 o1 : Obj) {W : World} (hW : (w.alloc o0).alloc o1 = W) : W.heap[w.heap.size]? = some o0 ∧ W.heap[w.heap.size + 1]? = some o1 ∧ W.heap.size = w.heap.size + 2 ∧ Below w.heap.size w W := by
  subst hW
  refine ⟨(Below.heap_alloc _ _ _ (by simp)).trans (heap_alloc_new w _), ?_, by simp, ((Below.refl _ _).alloc (Nat.le_refl _) _).alloc (by simp) _⟩
  have := heap_alloc_new (w.alloc o0) o1
  rwa [World.size_alloc] at this

set_option maxRecDepth 100000 in
set_option maxHeartbeats 4000000 in
theorem tGet_any (A : Option Addr) (c : Nat) (t : List ND) (p : List UInt8) (w : World) (hT : NodesP w (fun _ => True) A t) (hl : t.length ≤ 1099511627776 ∧ t.length ≤ c) (hz : SizeT t) (hp : p.length ≤ 137438953472) :
    Calls Try.prog 12 #[.slice A t.length c, encS p] w fun e w' => e = .returned (.tuple #[encS (getQ t p).1, .int .i64 (getQ t p).2]) ∧ Below w.heap.size w w' := by
  obtain ⟨W1, hW1⟩ : ∃ W1, (w.alloc (.cells #[.slice A t.length c] 22)).alloc (.cells #[.string ⟨#[]⟩] 9) = W1 := ⟨_, rfl⟩
  obtain ⟨k0, k1, ks, kb⟩ := two_boxes w _ _ hW1
  have y0 := cell_of_one k0
  have hTb := hT.below kb
  have eg := enters_of Try.func29 (by kernel_rfl) rfl
  obtain ⟨lb, hlb⟩ : ∃ lb : Array Value, lb = #[.pointer (some ⟨w.heap.size, 0, none⟩), .pointer (some ⟨w.heap.size + 1, 0, none⟩)] := ⟨_, rfl⟩
  have cA : Calls Try.prog 25 #[.slice A t.length c, encS p, .func (.func 29) #[] lb] W1 (AtPost (GetR w.heap.size (w.heap.size + 1) w (getQ t p))) := by
    rcases askQ_cases t p with ⟨ha, hok, hq⟩ | ⟨ha, -, -⟩ | ⟨ha, -⟩
    · refine at_ok 29 lb eg _ A c t p W1 hTb hl.1 hz hl.2 (by omega) hok hq fun W hb => ?_
      rw [hlb]
      exact getFn A c t p w.heap.size (w.heap.size + 1) w.heap.size w W (by omega) (heap_below' k0 hb) (heap_below' k1 hb) (kb.trans (hb.mono (by omega))) (hTb.below hb) hok ha
    · refine (at_err 29 lb A c t p 31 W1 hTb hl.1 hz hl.2 (by omega) ha (by decide)).mono ?_
      rintro e w' ⟨rfl, hb⟩
      exact getR_nil (getQ_ask ha (by decide)) (heap_below' k1 hb) (kb.trans (hb.mono (by omega)))
    · refine (at_err 29 lb A c t p 9 W1 hTb hl.1 hz hl.2 (by omega) ha (by decide)).mono ?_
      rintro e w' ⟨rfl, hb⟩
      exact getR_nil (getQ_ask ha (by decide)) (heap_below' k1 hb) (kb.trans (hb.mono (by omega)))
  rw [hlb] at cA
  generalize getQ t p = q at *
  clear hT hTb hz k0 k1 hlb eg
  go_enter Try.func12, Try.ntmps12
  go_wp2_with fail
  refine cA.mono ?_
  rintro e w2 ⟨n, rfl, rfl, hbx, hB⟩
  have e0 := cell_of_one hbx
  have f0 := free_of_one hbx
  have HO := hid hB
  have HS := hid (set_same hbx)
  clear cA hB hW1
  go_wp2
  first | rw [HS.out] | rw [show w.heap.size + 1 = w.heap.size + 1 from rfl]
  exact bodyPost_ret (v := .tuple #[encS q.1, .int .i64 q.2]) (by simp [results, Try.results12, go_sem, e0]) rfl ⟨rfl, HO.out⟩

def KindR (N rb : Nat) (w0 : World) (k : Int) (_n : Int) (W' : World) : Prop := W'.heap[rb]? = some (.cells #[.int .i64 k] 3 (0, 0)) ∧ Below N w0 W'
set_option maxHeartbeats 2000000 in
theorem kindFn (P : List UInt8) (wh K : Int) (rb N : Nat) (w0 W : World) (hN : N ≤ rb) (h4 : W.heap[rb]? = some (.cells #[.int .i64 0] 3 (0, 0))) (hB : Below N w0 W) :
    Calls Try.prog 35 #[.agg #[encS P, .int .i64 wh, .int .i64 K], .pointer (some ⟨rb, 0, none⟩)] W (AtPost (KindR N rb w0 K)) := by
  have hNW : N ≤ W.heap.size := by have := lt_of_block h4; omega
  obtain ⟨W1, hW1⟩ : ∃ W1, W.alloc (.cells #[encS P, .int .i64 wh, .int .i64 K] 51) = W1 := ⟨_, rfl⟩
  have hal : Below W.heap.size W W1 := by rw [← hW1]; exact (Below.refl _ _).alloc (Nat.le_refl _) _
  have hsp : W1.heap[W.heap.size]? = some (.cells #[encS P, .int .i64 wh, .int .i64 K] 51 (0, 0)) := by rw [← hW1]; exact heap_alloc_new _ _
  have g4 := heap_below' h4 hal
  have hB1 := hB.trans (hal.mono hNW)
  have x2 : W1.cell? ⟨W.heap.size, 2, none⟩ = some (.int .i64 K) := by simp [World.cell?, hsp]
  have e0 := cell_of_one g4; have f0 := free_of_one g4
  have HF := hid (And.intro (one_setCell (u := .int .i64 K) g4) (hB1.setCell (p := ⟨rb, 0, none⟩) hN (.int .i64 K)))
  clear h4 hB hsp g4 hB1
  go_enter Try.func35, Try.ntmps35
  go_wp2
  go_ret
  exact ⟨0, rfl, HF.out.1, HF.out.2⟩
set_option maxRecDepth 100000 in
set_option maxHeartbeats 4000000 in
theorem tKind_any (A : Option Addr) (c : Nat) (t : List ND) (p : List UInt8) (w : World) (hT : NodesP w (fun _ => True) A t) (hl : t.length ≤ 1099511627776 ∧ t.length ≤ c) (hz : SizeT t) (hp : p.length ≤ 137438953472) :
    Calls Try.prog 14 #[.slice A t.length c, encS p] w fun e w' => e = .returned (.int .i64 (kindQ t p)) ∧ Below w.heap.size w w' := by
  obtain ⟨W1, hW1⟩ : ∃ W1, w.alloc (.cells #[.int .i64 0] 3) = W1 := ⟨_, rfl⟩
  have kb : Below w.heap.size w W1 := by rw [← hW1]; exact (Below.refl _ _).alloc (Nat.le_refl _) _
  have k0 : W1.heap[w.heap.size]? = some (.cells #[.int .i64 0] 3 (0, 0)) := by rw [← hW1]; exact heap_alloc_new _ _
  have ks : W1.heap.size = w.heap.size + 1 := by rw [← hW1]; simp
  have hTb := hT.below kb
  have eg := enters_of Try.func35 (by kernel_rfl) rfl
  obtain ⟨lb, hlb⟩ : ∃ lb : Array Value, lb = #[.pointer (some ⟨w.heap.size, 0, none⟩)] := ⟨_, rfl⟩
  have cA : Calls Try.prog 25 #[.slice A t.length c, encS p, .func (.func 35) #[] lb] W1 (AtPost (KindR w.heap.size w.heap.size w (kindQ t p))) := by
    rcases askQ_cases t p with ⟨ha, hok, hq⟩ | ⟨ha, -, -⟩ | ⟨ha, -⟩
    · refine at_ok 35 lb eg _ A c t p W1 hTb hl.1 hz hl.2 (by omega) hok hq fun W hb => ?_
      rw [hlb, show kindQ t p = kindL t (pathL p) by unfold kindQ; rw [ha]; simp]
      exact kindFn (pathL p) _ _ w.heap.size w.heap.size w W (Nat.le_refl _) (heap_below' k0 hb) (kb.trans (hb.mono (by omega)))
    · refine (at_err 35 lb A c t p 31 W1 hTb hl.1 hz hl.2 (by omega) ha (by decide)).mono ?_
      rintro e w' ⟨rfl, hb⟩
      rw [show kindQ t p = 0 by unfold kindQ; rw [ha]; simp]
      exact ⟨31, rfl, heap_below' k0 hb, kb.trans (hb.mono (by omega))⟩
    · refine (at_err 35 lb A c t p 9 W1 hTb hl.1 hz hl.2 (by omega) ha (by decide)).mono ?_
      rintro e w' ⟨rfl, hb⟩
      rw [show kindQ t p = 0 by unfold kindQ; rw [ha]; simp]
      exact ⟨9, rfl, heap_below' k0 hb, kb.trans (hb.mono (by omega))⟩
  rw [hlb] at cA
  generalize kindQ t p = q at *
  clear hT hTb hz k0 hlb eg
  go_enter Try.func14, Try.ntmps14
  go_wp2_with fail
  refine cA.mono ?_
  rintro e w2 ⟨n, rfl, hbx, hB⟩
  have e0 := cell_of_one hbx
  have f0 := free_of_one hbx
  have HO := hid hB
  have HS := hid (set_same hbx)
  clear cA hB hW1
  go_wp2
  rw [HS.out]
  exact bodyPost_ret (v := .int .i64 q) (by simp [results, Try.results14, go_sem, e0]) rfl ⟨rfl, HO.out⟩
end Go.Proofs.Ytngllipfnbmpeaa
