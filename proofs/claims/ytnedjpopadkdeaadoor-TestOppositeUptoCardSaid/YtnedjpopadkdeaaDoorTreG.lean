
/- Contracts of the reference's ask, Get, Kind, room. Conditions: sizes. -/
import Derived.Test.YtnedjpopadkdeaaDoorTreC
namespace Go.Proofs.YtnedjpopadkdeaaDoor
open Go.RowKit
open Go.Lib (hid)

open Classical in
noncomputable def askQ (t : List ND) (p : List UInt8) : List UInt8 × Int := if OkT t then pathQ p else ([], 9)
theorem checkL_cases (t : List ND) : (OkT t ∧ checkL t = 0) ∨ (¬ OkT t ∧ checkL t = 9) := by
  unfold checkL
  by_cases h : OkT t
  · rw [if_pos h]; exact .inl ⟨h, rfl⟩
  · rw [if_neg h]; exact .inr ⟨h, rfl⟩
theorem pathQ_cases (p : List UInt8) : pathQ p = (pathL p, 0) ∨ pathQ p = ([], 31) := by
  by_cases h : 0 ∉ p ∧ p ≠ []
  · exact .inl (pathQ_ok h)
  · exact .inr (pathQ_bad h)
theorem askQ_cases (t : List ND) (p : List UInt8) : (askQ t p = (pathL p, 0) ∧ OkT t ∧ pathQ p = (pathL p, 0)) ∨ (askQ t p = ([], 31) ∧ OkT t ∧ pathQ p = ([], 31)) ∨ (askQ t p = ([], 9) ∧ ¬ OkT t) := by
  unfold askQ
  by_cases h : OkT t
  · rw [if_pos h]
    rcases pathQ_cases p with e | e
    · exact .inl ⟨e, h, e⟩
    · exact .inr (.inl ⟨e, h, e⟩)
  · rw [if_neg h]; exact .inr (.inr ⟨rfl, h⟩)

set_option maxHeartbeats 2000000 in
theorem rask_any (A : Option Addr) (c : Nat) (t : List ND) (p : List UInt8) (w : World) (hT : NodesP w (fun _ => True) A t) (hl : t.length ≤ 1099511627776) (hz : SizeT t) (hp : p.length ≤ 274877906944) :
    Calls Tryd.prog 36 #[.slice A t.length c, encS p] w fun e w' => e = .returned (.tuple #[encS (askQ t p).1, .int .i64 (askQ t p).2]) ∧ Below w.heap.size w w' := by
  have cC := rCheck_any A c t w hT hl hz
  have cP := fun W => rPath_any p W (by omega)
  rcases checkL_cases t with ⟨h, h0⟩ | ⟨h, h0⟩
  · have HA : Hid (askQ t p = pathQ p) := hid (by unfold askQ; rw [if_pos h])
    rw [h0] at cC
    clear h h0 hT hz
    go_enter Tryd.func36, Tryd.ntmps36
    go_wp2_with fail
    refine cC.mono ?_
    rintro e w1 ⟨rfl, hb1⟩
    have HB := hid hb1
    clear hb1 cC
    go_wp2_with fail
    refine (cP _).mono ?_
    rintro e w2 ⟨rfl, hb2⟩
    have HB2 := hid (HB.out.trans (hb2.mono HB.out.size))
    clear hb2 cP
    go_wp2_with fail
    go_ret2
    exact ⟨by rw [HA.out]; rfl, HB2.out⟩
  · have HA : Hid (askQ t p = ([], 9)) := hid (by unfold askQ; rw [if_neg h])
    rw [h0] at cC
    clear h h0 hT hz
    go_enter Tryd.func36, Tryd.ntmps36
    go_wp2_with fail
    refine cC.mono ?_
    rintro e w1 ⟨rfl, hb1⟩
    have HB := hid hb1
    clear hb1 cC
    go_wp2_with fail
    go_ret2
    exact ⟨by rw [HA.out]; rfl, HB.out⟩

theorem kind_cases (t : List ND) (p : List UInt8) : (kindL t p = 0 ∧ p ≠ [47] ∧ findN t p = none) ∨ (kindL t p = 1 ∧ p ≠ [47] ∧ ∃ n, findN t p = some n ∧ n.d = false) ∨ (kindL t p = 2 ∧ (p = [47] ∨ ∃ n, findN t p = some n ∧ n.d = true)) := by
  unfold kindL
  by_cases hp : p = [47]
  · rw [if_pos hp]; exact .inr (.inr ⟨rfl, .inl hp⟩)
  · rw [if_neg hp]
    cases hf : findN t p with
    | none => exact .inl ⟨rfl, hp, rfl⟩
    | some n =>
      cases hd : n.d
      · exact .inr (.inl ⟨by simp [hd], hp, n, rfl, hd⟩)
      · exact .inr (.inr ⟨by simp [hd], .inr ⟨n, rfl, hd⟩⟩)

noncomputable def getQ (t : List ND) (p : List UInt8) : List UInt8 × Int :=
  if (askQ t p).2 ≠ 0 then ([], (askQ t p).2) else if kindL t (pathL p) = 0 then ([], 71) else if kindL t (pathL p) = 2 then ([], 15) else (((findN t (pathL p)).map (·.x)).getD [], 0)
theorem getQ_ask {t : List ND} {p : List UInt8} {e : Int} (h : askQ t p = ([], e)) (he : e ≠ 0) : getQ t p = ([], e) := by
  unfold getQ
  rw [h, if_pos he]

set_option maxHeartbeats 4000000 in
theorem rGet_any (A : Option Addr) (c : Nat) (t : List ND) (p : List UInt8) (w : World) (hT : NodesP w (fun _ => True) A t) (hl : t.length ≤ 1099511627776) (hz : SizeT t) (hp : p.length ≤ 274877906944) :
    Calls Tryd.prog 28 #[.slice A t.length c, encS p] w fun e w' => e = .returned (.tuple #[encS (getQ t p).1, .int .i64 (getQ t p).2]) ∧ Below w.heap.size w w' := by
  have cA := rask_any A c t p w hT hl hz hp
  have cK := fun W (hb : Below w.heap.size w W) => rkind_any A c t (pathL p) W (hT.below hb) hl
  have cF := fun W (hb : Below w.heap.size w W) => rfind_any A c t (pathL p) W (hT.below hb) hl
  rcases askQ_cases t p with ⟨ha, h0, -⟩ | ⟨ha, -, -⟩ | ⟨ha, -⟩
  · have hq : Hid (getQ t p = if kindL t (pathL p) = 0 then ([], 71) else if kindL t (pathL p) = 2 then ([], 15) else (((findN t (pathL p)).map (·.x)).getD [], 0)) := hid (by unfold getQ; rw [ha]; simp)
    rw [ha] at cA
    rcases kind_cases t (pathL p) with ⟨hk, -, -⟩ | ⟨hk, hp47, n, hn, -⟩ | ⟨hk, -⟩
    · rw [hk] at hq cK
      clear hT hz ha h0 hk cF
      go_enter Tryd.func28, Tryd.ntmps28
      go_wp2_with fail
      refine cA.mono ?_
      rintro e w1 ⟨rfl, hb1⟩
      have HB := hid hb1
      have cK1 := cK w1 hb1
      clear hb1 cK cA
      go_wp2_with (go_at_call 37; refine cK1.mono ?_; rintro e w3 ⟨rfl, rfl⟩)
      go_ret2
      exact ⟨by rw [hq.out]; rfl, HB.out⟩
    · rcases find_cases t (pathL p) with ⟨i, hi, f1, f2, -⟩ | ⟨-, f2, -⟩
      · obtain ⟨g, o, rfl, -, c0, c1, c2⟩ := hT i hi
        rw [hk, f2] at hq
        have hq2 : Hid (getQ t p = (t[i].x, 0)) := hid (by rw [hq.out]; rfl)
        rw [hk] at cK
        rw [f1] at cF
        have HS := hid hi
        generalize t[i] = n0 at *
        clear hT hz ha h0 hk hq f1 f2 hn
        go_enter Tryd.func28, Tryd.ntmps28
        go_wp2_with fail
        refine cA.mono ?_
        rintro e w1 ⟨rfl, hb1⟩
        have a0 := cell_below hb1 c0; have a1 := cell_below hb1 c1; have a2 := cell_below hb1 c2
        have HB := hid hb1
        have cK1 := cK w1 hb1
        have cF1 := cF w1 hb1
        clear hb1 cK cA cF c0 c1 c2
        go_wp2_with (go_at_call 37; refine cK1.mono ?_; rintro e w3 ⟨rfl, rfl⟩)
        go_wp2_with (go_at_call 38; refine cF1.mono ?_; rintro e w3 ⟨rfl, rfl⟩)
        go_ret2
        exact ⟨by rw [hq2.out]; rfl, HB.out⟩
      · rw [f2] at hn; cases hn
    · rw [hk] at hq cK
      clear hT hz ha h0 hk cF
      go_enter Tryd.func28, Tryd.ntmps28
      go_wp2_with fail
      refine cA.mono ?_
      rintro e w1 ⟨rfl, hb1⟩
      have HB := hid hb1
      have cK1 := cK w1 hb1
      clear hb1 cK cA
      go_wp2_with (go_at_call 37; refine cK1.mono ?_; rintro e w3 ⟨rfl, rfl⟩)
      go_ret2
      exact ⟨by rw [hq.out]; rfl, HB.out⟩
  all_goals
    have hq := hid (getQ_ask ha (by decide))
    rw [ha] at cA
    clear hT hz ha cF cK
    go_enter Tryd.func28, Tryd.ntmps28
    go_wp2_with fail
    refine cA.mono ?_
    rintro e w1 ⟨rfl, hb1⟩
    have HB := hid hb1
    clear hb1 cA
    go_wp2_with fail
    go_ret2
    exact ⟨by rw [hq.out]; rfl, HB.out⟩

noncomputable def kindQ (t : List ND) (p : List UInt8) : Int := if (askQ t p).2 ≠ 0 then 0 else kindL t (pathL p)
set_option maxHeartbeats 4000000 in
theorem rKind_any (A : Option Addr) (c : Nat) (t : List ND) (p : List UInt8) (w : World) (hT : NodesP w (fun _ => True) A t) (hl : t.length ≤ 1099511627776) (hz : SizeT t) (hp : p.length ≤ 274877906944) :
    Calls Tryd.prog 27 #[.slice A t.length c, encS p] w fun e w' => e = .returned (.int .i64 (kindQ t p)) ∧ Below w.heap.size w w' := by
  have cA := rask_any A c t p w hT hl hz hp
  have cK := fun W (hb : Below w.heap.size w W) => rkind_any A c t (pathL p) W (hT.below hb) hl
  rcases askQ_cases t p with ⟨ha, h0, -⟩ | ⟨ha, -, -⟩ | ⟨ha, -⟩
  · have hq : Hid (kindQ t p = kindL t (pathL p)) := hid (by unfold kindQ; rw [ha]; simp)
    rw [ha] at cA
    clear hT hz ha h0
    go_enter Tryd.func27, Tryd.ntmps27
    go_wp2_with fail
    refine cA.mono ?_
    rintro e w1 ⟨rfl, hb1⟩
    have HB := hid hb1
    have cK1 := cK w1 hb1
    clear hb1 cK cA
    go_wp2_with (go_at_call 37; refine cK1.mono ?_; rintro e w3 ⟨rfl, rfl⟩)
    go_ret
    exact ⟨by rw [hq.out]; rfl, HB.out⟩
  all_goals
    have hq : Hid (kindQ t p = 0) := hid (by unfold kindQ; rw [ha, if_pos (by decide)])
    rw [ha] at cA
    clear hT hz ha cK
    go_enter Tryd.func27, Tryd.ntmps27
    go_wp2_with fail
    refine cA.mono ?_
    rintro e w1 ⟨rfl, hb1⟩
    have HB := hid hb1
    clear hb1 cA
    go_wp2_with fail
    go_ret
    exact ⟨by rw [hq.out]; rfl, HB.out⟩

def roomL (t : List ND) (p : List UInt8) : Int := if kindL t (aboveL p) = 0 then 71 else if kindL t (aboveL p) = 1 then 16 else 0
end Go.Proofs.YtnedjpopadkdeaaDoor
