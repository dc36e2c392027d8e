
/- Contracts of number.spelt, Literal, size: each returns what the plain mathematics says; the world is as it was. No conditions but the size of a string and that an int is one. -/
import Derived.Test.YtnedjpopadkdeaaDoorNumA
namespace Go.Proofs.YtnedjpopadkdeaaDoor
open Go.RowKit
open Go.Lib (hid)

def speltL : List UInt8 → List UInt8 × Int
  | c :: d :: r => if c = 48 then (if d = 120 ∨ d = 88 then (r, 16) else (d :: r, 8)) else (c :: d :: r, 10)
  | l => (l, 10)
theorem speltL_short {l : List UInt8} (h : l.length < 2) : speltL l = (l, 10) := by
  match l, h with
  | [], _ => rfl
  | [_], _ => rfl
  | _ :: _ :: _, h => simp at h; omega
theorem speltL_base (l : List UInt8) : (speltL l).2 = 10 ∨ (speltL l).2 = 16 ∨ (speltL l).2 = 8 := by
  match l with
  | [] => simp [speltL]
  | [_] => simp [speltL]
  | c :: d :: r => rw [speltL]; split
                   · split
                     · exact .inr (.inl rfl)
                     · exact .inr (.inr rfl)
                   · exact .inl rfl
theorem speltL_len (l : List UInt8) : (speltL l).1.length ≤ l.length := by
  match l with
  | [] => simp [speltL]
  | [_] => simp [speltL]
  | c :: d :: r => rw [speltL]; split
                   · split
                     · simp only [List.length_cons]; omega
                     · simp only [List.length_cons]; omega
                   · exact Nat.le_refl _
theorem ba_of_list (s : ByteArray) : (⟨s.data.toList.toArray⟩ : ByteArray) = s := by cases s; simp
theorem extract_from (s : ByteArray) (k : Nat) : s.extract k s.size = ⟨(s.data.toList.drop k).toArray⟩ := by
  cases s with
  | mk d =>
    rw [ByteArray.extract_mk]
    congr 1
    rw [← Array.toList_inj]
    simp [ByteArray.size]
    exact List.take_of_length_le (by simp)

theorem two_octets (s : ByteArray) (h : 2 ≤ s.size) : s.data.toList = s[0] :: s[1] :: s.data.toList.drop 2 := by
  have h1 : s.data.toList.drop 0 = s[0] :: s.data.toList.drop 1 := List.drop_eq_getElem_cons (by rw [len_toList]; omega)
  have h2 : s.data.toList.drop 1 = s[1] :: s.data.toList.drop 2 := List.drop_eq_getElem_cons (by rw [len_toList]; omega)
  rw [← h2, ← h1]; rfl

def litL (l : List UInt8) : Int × Int := if (readL (speltL l).2 (speltL l).1).2 then (wrap64 (readL (speltL l).2 (speltL l).1).1, 0) else (0, 33)

end Go.Proofs.YtnedjpopadkdeaaDoor
