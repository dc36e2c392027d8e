
/- Contracts of the reference's ask, Get, Kind, room. Conditions: sizes. -/
import Derived.Test.YtngllipfnbmpeaaTreC
namespace Go.Proofs.Ytngllipfnbmpeaa
open Go.RowKit
open Go.Lib (hid)

open Classical in
noncomputable def askQ (t : List ND) (p : List UInt8) : List UInt8 × Int := if OkT t then pathQ p else ([], 9)
theorem checkL_cases (t : List ND) : (OkT t ∧ checkL t = 0) ∨ (¬ OkT t ∧ checkL t = 9) := by
  unfold checkL
  by_cases h : OkT t
  · rw [if_pos h]; exact .inl ⟨h, rfl⟩
  · rw [if_neg h]; exact .inr ⟨h, rfl⟩
theorem pathQ_cases (p : List UInt8) : pathQ p = (pathL p, 0) ∨ pathQ p = ([], 31) := by
  by_cases h : 0 ∉ p ∧ p ≠ []
  · exact .inl (pathQ_ok h)
  · exact .inr (pathQ_bad h)
theorem askQ_cases (t : List ND) (p : List UInt8) : (askQ t p = (pathL p, 0) ∧ OkT t ∧ pathQ p = (pathL p, 0)) ∨ (askQ t p = ([], 31) ∧ OkT t ∧ pathQ p = ([], 31)) ∨ (askQ t p = ([], 9) ∧ ¬ OkT t) := by
  unfold askQ
  by_cases h : OkT t
  · rw [if_pos h]
    rcases pathQ_cases p with e | e
    · exact .inl ⟨e, h, e⟩
    · exact .inr (.inl ⟨e, h, e⟩)
  · rw [if_neg h]; exact .inr (.inr ⟨rfl, h⟩)

set_option maxHeartbeats 2000000 in
theorem rask_any (A : Option Addr) (c : Nat) (t : List ND) (p : List UInt8) (w : World) (hT : NodesP w (fun _ => True) A t) (hl : t.length ≤ 1099511627776) (hz : SizeT t) (hp : p.length ≤ 274877906944) :
    Calls Try.prog 41 #[.slice A t.length c, encS p] w fun e w' => e = .returned (.tuple #[encS (askQ t p).1, .int .i64 (askQ t p).2]) ∧ Below w.heap.size w w' := by
  have cC := rCheck_any A c t w hT hl hz
  have cP := fun W => rPath_any p W (by omega)
  rcases checkL_cases t with ⟨h, h0⟩ | ⟨h, h0⟩
  · have HA : Hid (askQ t p = pathQ p) := hid (by unfold askQ; rw [if_pos h])
    rw [h0] at cC
    clear h h0 hT hz
    go_enter Try.func41, Try.ntmps41
    go_wp2_with fail
    refine cC.mono ?_
    rintro e w1 ⟨rfl, hb1⟩
    have HB := hid hb1
    clear hb1 cC
    go_wp2_with fail
    refine (cP _).mono ?_
    rintro e w2 ⟨rfl, hb2⟩
    have HB2 := hid (HB.out.trans (hb2.mono HB.out.size))
    clear hb2 cP
    go_wp2_with fail
    go_ret2
    exact ⟨by rw [HA.out]; rfl, HB2.out⟩
  · have HA : Hid (askQ t p = ([], 9)) := hid (by unfold askQ; rw [if_neg h])
    rw [h0] at cC
    clear h h0 hT hz
    go_enter Try.func41, Try.ntmps41
    go_wp2_with fail
    refine cC.mono ?_
    rintro e w1 ⟨rfl, hb1⟩
    have HB := hid hb1
    clear hb1 cC
    go_wp2_with fail
    go_ret2
    exact ⟨by rw [HA.out]; rfl, HB.out⟩

theorem kind_cases (t : List ND) (p : List UInt8) : (kindL t p = 0 ∧ p ≠ [47] ∧ findN t p = none) ∨ (kindL t p = 1 ∧ p ≠ [47] ∧ ∃ n, findN t p = some n ∧ n.d = false) ∨ (kindL t p = 2 ∧ (p = [47] ∨ ∃ n, findN t p = some n ∧ n.d = true)) := by
  unfold kindL
  by_cases hp : p = [47]
  · rw [if_pos hp]; exact .inr (.inr ⟨rfl, .inl hp⟩)
  · rw [if_neg hp]
    cases hf : findN t p with
    | none => exact .inl ⟨rfl, hp, rfl⟩
    | some n =>
      cases hd : n.d
      · exact .inr (.inl ⟨by simp [hd], hp, n, rfl, hd⟩)
      · exact .inr (.inr ⟨by simp [hd], .inr ⟨n, rfl, hd⟩⟩)

noncomputable def getQ (t : List ND) (p : List UInt8) : List UInt8 × Int :=
  if (askQ t p).2 ≠ 0 then ([], (askQ t p).2) else if kindL t (pathL p) = 0 then ([], 71) else if kindL t (pathL p) = 2 then ([], 15) else (((findN t (pathL p)).map (·.x)).getD [], 0)
theorem getQ_ask {t : List ND} {p : List UInt8} {e : Int} (h : askQ t p = ([], e)) (he : e ≠ 0) : getQ t p = ([], e) := by
  unfold getQ
  rw [h, if_pos he]

noncomputable def kindQ (t : List ND) (p : List UInt8) : Int := if (askQ t p).2 ≠ 0 then 0 else kindL t (pathL p)
def roomL (t : List ND) (p : List UInt8) : Int := if kindL t (aboveL p) = 0 then 71 else if kindL t (aboveL p) = 1 then 16 else 0
set_option maxHeartbeats 4000000 in
theorem rroom_any (A : Option Addr) (c : Nat) (t : List ND) (p : List UInt8) (w : World) (hT : NodesP w (fun _ => True) A t) (hl : t.length ≤ 1099511627776) (hp : p.length ≤ 549755813888) :
    Calls Try.prog 43 #[.slice A t.length c, encS p] w fun e w' => e = .returned (.int .i64 (roomL t p)) ∧ Below w.heap.size w w' := by
  have cA := rabove_any p w hp
  have cK := fun W (hb : Below w.heap.size w W) => rkind_any A c t (aboveL p) W (hT.below hb) hl
  rcases kind_cases t (aboveL p) with ⟨hk, -, -⟩ | ⟨hk, -, -⟩ | ⟨hk, -⟩
  all_goals
    have hq : Hid (roomL t p = _) := hid (by unfold roomL; rw [hk])
    rw [hk] at cK
    clear hT hk
    go_enter Try.func43, Try.ntmps43
    go_wp2_with fail
    refine cA.mono ?_
    rintro e w1 ⟨rfl, hb1⟩
    have HB := hid hb1
    have cK1 := cK w1 hb1
    clear hb1 cK cA
    go_wp2_with (go_at_call 42; refine cK1.mono ?_; rintro e w3 ⟨rfl, rfl⟩)
    go_ret
    exact ⟨by rw [hq.out]; rfl, HB.out⟩
end Go.Proofs.Ytngllipfnbmpeaa
