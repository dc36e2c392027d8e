
/- Nodes in memory; contracts of the reference's above, find, kind. Conditions: sizes. -/
import Derived.Test.YtnedjpopadkdeaaDoorTreJ
namespace Go.Proofs.YtnedjpopadkdeaaDoor
open Go.RowKit
open Go.Lib (hid)

/-- A node: its path, is it a directory, its data. -/
structure ND where
  p : List UInt8
  d : Bool
  x : List UInt8
/-- The slice at A holds these nodes. -/
def NodesP (w : World) (P : Nat → Prop) (A : Option Addr) (t : List ND) : Prop :=
  ∀ k (h : k < t.length), ∃ g o, A = some ⟨g, o, none⟩ ∧ P g ∧ w.cell? ⟨g, o + k * 3, none⟩ = some (encS t[k].p) ∧ w.cell? ⟨g, o + k * 3 + 1, none⟩ = some (.bool t[k].d) ∧ w.cell? ⟨g, o + k * 3 + 2, none⟩ = some (encS t[k].x)
theorem NodesP.frame {w w' : World} {P Q : Nat → Prop} {A : Option Addr} {t : List ND} (h : NodesP w P A t) (hf : ∀ g, g < w.heap.size → P g → Q g ∧ w'.heap[g]? = w.heap[g]?) : NodesP w' Q A t := fun k hk => by
  obtain ⟨g, o, e, hp, c0, c1, c2⟩ := h k hk
  obtain ⟨h1, h2⟩ := hf g (World.block_lt_of_cell? w _ c0) hp
  exact ⟨g, o, e, h1, by simpa [World.cell?, h2] using c0, by simpa [World.cell?, h2] using c1, by simpa [World.cell?, h2] using c2⟩
theorem NodesP.below {w w' : World} {P : Nat → Prop} {A : Option Addr} {t : List ND} (h : NodesP w P A t) (hb : Below w.heap.size w w') : NodesP w' P A t := h.frame fun g hg hp => ⟨hp, hb.block g hg⟩
theorem NodesP.any {w : World} {P : Nat → Prop} {A : Option Addr} {t : List ND} (h : NodesP w P A t) : NodesP w (fun _ => True) A t := h.frame fun _ _ _ => ⟨trivial, rfl⟩

def findN (t : List ND) (p : List UInt8) : Option ND := t.find? fun n => n.p == p
def findI (t : List ND) (p : List UInt8) : Int := match t.findIdx? fun n => n.p == p with | some i => i | none => -1
/-- 0: nothing, 1: a file, 2: a directory. -/
def kindL (t : List ND) (p : List UInt8) : Int := if p = [47] then 2 else match findN t p with | some n => if n.d then 2 else 1 | none => 0
def aboveL (p : List UInt8) : List UInt8 := joinL (partsL p).dropLast

set_option maxRecDepth 100000 in
set_option maxHeartbeats 2000000 in
theorem rabove_any (p : List UInt8) (w : World) (hs : p.length ≤ 549755813888) :
    Calls Tryd.prog 70 #[encS p] w fun e w' => e = .returned (encS (aboveL p)) ∧ Below w.heap.size w w' := by
  have hp := parts_sum p
  have hpl := len_slash (partsL p)
  go_enter Tryd.func70, Tryd.ntmps70
  go_wp2_with fail
  refine (rParts_any p w (by omega)).mono ?_
  rintro e w1 ⟨A, c, rfl, hO, hb1⟩
  have hcap := own_len hO
  by_cases he : partsL p = []
  · have HA : Hid (aboveL p = [47]) := hid (by unfold aboveL; rw [he]; rfl)
    have hl : (partsL p).length = 0 := by rw [he]; rfl
    clear he hO hp hpl
    go_wp2
    go_ret
    exact ⟨by rw [HA.out]; rfl, hb1⟩
  · obtain ⟨m, hm⟩ : ∃ m, (partsL p).length = m + 1 := ⟨(partsL p).length - 1, by have := List.length_pos_iff.2 he; omega⟩
    have hd : (partsL p).dropLast.length = m := by rw [List.length_dropLast]; omega
    have hO2 : w1.ownsRow w.heap.size 9 1 (.slice A (partsL p).dropLast.length c) (partsL p).dropLast.length ((partsL p).dropLast.map encS) := by
      rw [hm] at hO
      rw [hd, List.map_dropLast]
      exact own_pop hO
    have hsl : (slashL (partsL p).dropLast).length ≤ (slashL (partsL p)).length := by
      have e : slashL (partsL p) = slashL (partsL p).dropLast ++ slashL [(partsL p).getLast he] := by rw [← slash_append, List.dropLast_concat_getLast]
      rw [e]; simp
    have cJ := rJoined_any A c (partsL p).dropLast w1 (TextsP.of_own hO2).any (by omega) (by omega)
    have hg : (((partsL p).length : Int) == 0) = false := by simp; omega
    have hg1 : (1 : Int) ≤ ((partsL p).length : Int) := by omega
    have hg2 : ((partsL p).length : Int) - 1 ≤ (c : Int) := by omega
    have hg3 : ((partsL p).length : Int) ≤ 1099511627776 := by omega
    rw [List.length_dropLast] at cJ
    have HB := hid hb1
    clear hO hO2 hm hd hsl he hp hpl hb1
    go_wp2_with (go_at_call 71; refine cJ.mono ?_; rintro e w2 ⟨rfl, rfl⟩)
    go_ret
    exact ⟨rfl, HB.out⟩

set_option maxHeartbeats 1000000 in
theorem rfind_any (A : Option Addr) (c : Nat) (t : List ND) (p : List UInt8) (w : World) (hT : NodesP w (fun _ => True) A t) (hl : t.length ≤ 1099511627776) :
    Calls Tryd.prog 38 #[.slice A t.length c, encS p] w fun e w' => e = .returned (.int .i64 (findI t p)) ∧ w = w' := by
  go_enter Tryd.func38, Tryd.ntmps38
  go_wp2
  go_loop [5] (fun i => ∃ k : Nat, k ≤ t.length ∧ i = .int .i64 k ∧ Hid (∀ j (h : j < t.length), j < k → t[j].p ≠ p)) (fun i => t.length - (intOf i).toNat)
  case atStart => exact ⟨0, Nat.zero_le _, rfl, hid (fun j _ h => absurd h (Nat.not_lt_zero _))⟩
  case round =>
    obtain ⟨k, hk, rfl, HZ⟩ := hrel
    by_cases hlt : k < t.length
    · obtain ⟨g, o, rfl, -, c0, -, -⟩ := hT k hlt
      by_cases hp : t[k].p = p
      · have g1 : (t[k].p == p) = true := by simpa using hp
        have HF : Hid (findI t p = k) := hid (by
          unfold findI
          rw [show t.findIdx? (fun n => n.p == p) = some k from List.findIdx?_eq_some_iff_getElem.2 ⟨hlt, g1, fun j hj => by simpa using HZ.out j (by omega) hj⟩])
        clear hp HZ hT
        go_wp2
        go_ret
        exact ⟨by rw [HF.out]; rfl, rfl⟩
      · have g1 : (t[k].p == p) = false := by simpa using hp
        have HZ2 : Hid (∀ j (h : j < t.length), j < k + 1 → t[j].p ≠ p) := hid (fun j hj hjk => by
          by_cases e : j = k
          · subst e; exact hp
          · exact HZ.out j hj (by omega))
        clear hp HZ hT
        go_wp2
        go_round
        case rel => exact ⟨k + 1, by omega, by go_num, HZ2⟩
        case measure => simp [intOf]; omega
    · obtain rfl : k = t.length := by omega
      have HF : Hid (findI t p = -1) := hid (by
        unfold findI
        rw [show t.findIdx? (fun n => n.p == p) = none from by
          rw [List.findIdx?_eq_none_iff]
          intro x hx
          obtain ⟨j, hj, rfl⟩ := List.getElem_of_mem hx
          simpa using HZ.out j hj hj])
      clear HZ hT
      go_wp2
      go_ret
      exact ⟨by rw [HF.out]; rfl, rfl⟩

theorem find_cases (t : List ND) (p : List UInt8) : (∃ (i : Nat) (h : i < t.length), findI t p = i ∧ findN t p = some t[i] ∧ t[i].p = p) ∨ (findI t p = -1 ∧ findN t p = none ∧ ∀ n ∈ t, n.p ≠ p) := by
  cases hf : t.findIdx? (fun n => n.p == p) with
  | some i =>
    obtain ⟨h, h1, h2⟩ := List.findIdx?_eq_some_iff_getElem.1 hf
    refine .inl ⟨i, h, by unfold findI; rw [hf], ?_, by simpa using h1⟩
    unfold findN
    exact List.find?_eq_some_iff_getElem.2 ⟨h1, i, h, rfl, fun j hj => by simpa using h2 j hj⟩
  | none =>
    have h := List.findIdx?_eq_none_iff.1 hf
    refine .inr ⟨by unfold findI; rw [hf], ?_, fun n hn => by simpa using h n hn⟩
    unfold findN
    exact List.find?_eq_none.2 fun n hn => by simpa using h n hn

set_option maxHeartbeats 2000000 in
theorem rkind_any (A : Option Addr) (c : Nat) (t : List ND) (p : List UInt8) (w : World) (hT : NodesP w (fun _ => True) A t) (hl : t.length ≤ 1099511627776) :
    Calls Tryd.prog 37 #[.slice A t.length c, encS p] w fun e w' => e = .returned (.int .i64 (kindL t p)) ∧ w = w' := by
  have cF := rfind_any A c t p w hT hl
  by_cases hp : p = [47]
  · have HK : Hid (kindL t p = 2) := hid (by unfold kindL; rw [if_pos hp])
    have q0 : (p == [47]) = true := by simpa using hp
    clear hp hT
    go_enter Tryd.func37, Tryd.ntmps37
    go_wp2_with (go_at_call 38; refine cF.mono ?_; rintro e w2 ⟨rfl, rfl⟩)
    go_ret
    exact ⟨by rw [HK.out]; rfl, rfl⟩
  · have q0 : (p == [47]) = false := by simpa using hp
    rcases find_cases t p with ⟨i, hi, h1, h2, h3⟩ | ⟨h1, h2, h3⟩
    · obtain ⟨g, o, rfl, -, c0, c1, -⟩ := hT i hi
      have HK : Hid (kindL t p = if t[i].d then 2 else 1) := hid (by unfold kindL; rw [if_neg hp, h2])
      rw [h1] at cF
      clear hp hT h1 h2 h3 c0
      generalize t[i].d = b at *
      cases b
      all_goals
        go_enter Tryd.func37, Tryd.ntmps37
        go_wp2_with (go_at_call 38; refine cF.mono ?_; rintro e w2 ⟨rfl, rfl⟩)
        go_ret
        exact ⟨by rw [HK.out]; rfl, rfl⟩
    · have HK : Hid (kindL t p = 0) := hid (by unfold kindL; rw [if_neg hp, h2])
      rw [h1] at cF
      clear hp hT h1 h2 h3
      go_enter Tryd.func37, Tryd.ntmps37
      go_wp2_with (go_at_call 38; refine cF.mono ?_; rintro e w2 ⟨rfl, rfl⟩)
      go_ret
      exact ⟨by rw [HK.out]; rfl, rfl⟩
end Go.Proofs.YtnedjpopadkdeaaDoor
