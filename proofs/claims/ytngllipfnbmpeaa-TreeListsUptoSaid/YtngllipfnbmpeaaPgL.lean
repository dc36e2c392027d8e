/- tree.written's closure. Conditions: sizes; a tree that may be. -/
import Derived.Test.YtngllipfnbmpeaaPgK
namespace Go.Proofs.Ytngllipfnbmpeaa
open Go.RowKit
open Go.Lib (hid)

def oldL (t : List ND) (P : List UInt8) : List UInt8 := ((findN t P).map (·.x)).getD []
noncomputable def writtenQ (t : List ND) (P : List UInt8) (y : List UInt8) : List ND × Int :=
  if kindL t P = 2 then ([], 15) else if roomL t P ≠ 0 then ([], roomL t P) else fitsQ (withL t ⟨P, false, y⟩)
theorem old_cases {t : List ND} {P : List UInt8} (ha : Asc t) (hK : kindL t P ≠ 2) : (kindL t P = 0 ∧ findN t P = none ∧ oldL t P = []) ∨ (kindL t P = 1 ∧ ∃ h : whereN t P < t.length, findN t P = some t[whereN t P] ∧ oldL t P = t[whereN t P].x) := by
  rcases kind_cases t P with ⟨h, _, h2⟩ | ⟨h, _, n, h2, _⟩ | ⟨h, _⟩
  · exact .inl ⟨h, h2, by unfold oldL; rw [h2]; rfl⟩
  · rcases where_find ha P with ⟨h3, _, h4⟩ | ⟨_, h4⟩
    · exact .inr ⟨h, h3, h4, by unfold oldL; rw [h4]; rfl⟩
    · rw [h4] at h2; cases h2
  · exact absurd h hK
theorem fits_room {t : List ND} {P y : List UInt8} (hok : OkT t) (hK : kindL t P ≠ 2) :
    ((kindL t P = 0 ∧ 256 ≤ t.length) ∨ 65536 < (sumX t : Int) + ((y.length : Int) - ((oldL t P).length : Int))) ↔ ¬ ((withL t ⟨P, false, y⟩).length ≤ 256 ∧ sumX (withL t ⟨P, false, y⟩) ≤ 65536) := by
  rw [withL_ins]
  have h256 := hok.1
  have hsm := hok.sum
  rcases old_cases hok.asc hK with ⟨h0, h1, h2⟩ | ⟨h0, hw, h1, h2⟩
  · obtain ⟨e1, e2⟩ := sum_new (n := ⟨P, false, y⟩) hok.asc h1
    rw [e1, e2, h0, h2]
    simp
    omega
  · obtain ⟨e1, e2⟩ := sum_old (n := ⟨P, false, y⟩) hok.asc h1
    rw [e2, h0, h2]
    have e1 : sumX (insN ⟨P, false, y⟩ t) + t[whereN t P].x.length = sumX t + y.length := e1
    simp
    omega
/-- Where the node goes, and what stands behind it. -/
def behindN (t : List ND) (P : List UInt8) : Nat := if kindL t P = 1 then whereN t P + 1 else whereN t P
theorem with_parts {t : List ND} {P y : List UInt8} (hok : OkT t) (hK : kindL t P ≠ 2) : withL t ⟨P, false, y⟩ = t.take (whereN t P) ++ (⟨P, false, y⟩ :: t.drop (behindN t P)) := by
  rw [withL_ins]
  unfold behindN
  rcases old_cases hok.asc hK with ⟨h0, h1, h2⟩ | ⟨h0, hw, h1, h2⟩
  · rw [h0, if_neg (by decide)]
    exact ins_new ⟨P, false, y⟩ hok.asc h1
  · rw [h0, if_pos rfl]
    exact ins_old ⟨P, false, y⟩ hok.asc h1
theorem behind_le {t : List ND} {P : List UInt8} (hok : OkT t) (hK : kindL t P ≠ 2) : behindN t P ≤ t.length := by
  unfold behindN
  rcases old_cases hok.asc hK with ⟨h0, _⟩ | ⟨h0, hw, _⟩
  · rw [h0, if_neg (by decide)]; exact where_le t P
  · rw [h0, if_pos rfl]; omega
theorem room_home {t : List ND} {P : List UInt8} (h : pathL P = P) (h47 : P ≠ [47]) (K more : Int) : roomR t P K more = if roomL t P ≠ 0 then roomL t P else if (K = 0 ∧ 256 ≤ t.length) ∨ 65536 < (sumX t : Int) + more then 17 else 0 := by
  unfold roomR roomL
  rw [home_above h h47]
  rcases kind_cases t (aboveL P) with ⟨e, _⟩ | ⟨e, _⟩ | ⟨e, _⟩ <;> rw [e] <;> simp
end Go.Proofs.Ytngllipfnbmpeaa
