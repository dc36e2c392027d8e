
/- Texts without blanks and tabs at their ends; the reference's Trim (of layer 4). Conditions: sizes. -/
import Derived.Test.YtfeedppodffheaaDoorMmT
namespace Go.Proofs.YtfeedppodffheaaDoor
open Go.RowKit
open Go.Lib (hid)

def blkW (c : UInt8) : Bool := c == 32 || c == 9
/-- Without blanks and tabs at its end. -/
def trimE (l : List UInt8) : List UInt8 := (l.reverse.dropWhile blkW).reverse
def trimW (l : List UInt8) : List UInt8 := trimE (l.dropWhile blkW)
theorem trimE_blank {l : List UInt8} {x : UInt8} (h : blkW x = true) : trimE (l ++ [x]) = trimE l := by simp [trimE, h]
theorem trimE_other {l : List UInt8} {x : UInt8} (h : blkW x = false) : trimE (l ++ [x]) = l ++ [x] := by simp [trimE, h]
theorem oc_size (l : List UInt8) : (⟨l.toArray⟩ : ByteArray).size = l.length := by simp [ByteArray.size]
theorem oc_get (l : List UInt8) (k : Nat) (h : k < l.length) : (⟨l.toArray⟩ : ByteArray)[k]'(by rw [oc_size]; exact h) = l[k] := by simp [ByteArray.getElem_eq_getElem_data]
theorem ext_behind (x : UInt8) (r : List UInt8) : (⟨(x :: r).toArray⟩ : ByteArray).extract 1 (r.length + 1) = ⟨r.toArray⟩ := by
  apply ByteArray.ext
  apply Array.toList_inj.1
  rw [ByteArray.data_extract, Array.toList_extract, List.extract_eq_take_drop]
  simp
theorem ext_ahead (l : List UInt8) (x : UInt8) : (⟨(l ++ [x]).toArray⟩ : ByteArray).extract 0 l.length = ⟨l.toArray⟩ := by
  apply ByteArray.ext
  apply Array.toList_inj.1
  rw [ByteArray.data_extract, Array.toList_extract, List.extract_eq_take_drop]
  simp
theorem last_facts {r l : List UInt8} {x : UInt8} (h : r = l ++ [x]) : (∀ h, (⟨r.toArray⟩ : ByteArray)[l.length]'h = x) ∧ (⟨r.toArray⟩ : ByteArray).size = l.length + 1 ∧ (⟨r.toArray⟩ : ByteArray).extract 0 l.length = ⟨l.toArray⟩ ∧ r.length = l.length + 1 := by
  subst h
  exact ⟨fun _ => by rw [oc_get (l ++ [x]) l.length (by simp)]; simp, by rw [oc_size]; simp, ext_ahead l x, by simp⟩
theorem blk_three (c : UInt8) : (((c.toNat : Int) == 32) = true ∧ blkW c = true) ∨ (((c.toNat : Int) == 32) = false ∧ ((c.toNat : Int) == 9) = true ∧ blkW c = true) ∨ (((c.toNat : Int) == 32) = false ∧ ((c.toNat : Int) == 9) = false ∧ blkW c = false) := by
  by_cases h1 : c = 32
  · subst h1; exact .inl ⟨rfl, rfl⟩
  · by_cases h2 : c = 9
    · subst h2; exact .inr (.inl ⟨rfl, rfl, rfl⟩)
    · exact .inr (.inr ⟨u8_ne (n := 32) h1, u8_ne (n := 9) h2, by simp [blkW, h1, h2]⟩)

end Go.Proofs.YtfeedppodffheaaDoor
