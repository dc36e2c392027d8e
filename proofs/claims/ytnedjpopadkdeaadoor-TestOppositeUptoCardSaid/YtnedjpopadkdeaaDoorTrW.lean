
/- Texts without blanks and tabs at their ends; the reference's Trim (of layer 4). Conditions: sizes. -/
import Derived.Test.YtnedjpopadkdeaaDoorMmT
namespace Go.Proofs.YtnedjpopadkdeaaDoor
open Go.RowKit
open Go.Lib (hid)

def blkW (c : UInt8) : Bool := c == 32 || c == 9
/-- Without blanks and tabs at its end. -/
def trimE (l : List UInt8) : List UInt8 := (l.reverse.dropWhile blkW).reverse
def trimW (l : List UInt8) : List UInt8 := trimE (l.dropWhile blkW)
theorem trimE_blank {l : List UInt8} {x : UInt8} (h : blkW x = true) : trimE (l ++ [x]) = trimE l := by simp [trimE, h]
theorem trimE_other {l : List UInt8} {x : UInt8} (h : blkW x = false) : trimE (l ++ [x]) = l ++ [x] := by simp [trimE, h]
theorem oc_size (l : List UInt8) : (⟨l.toArray⟩ : ByteArray).size = l.length := by simp [ByteArray.size]
theorem oc_get (l : List UInt8) (k : Nat) (h : k < l.length) : (⟨l.toArray⟩ : ByteArray)[k]'(by rw [oc_size]; exact h) = l[k] := by simp [ByteArray.getElem_eq_getElem_data]
theorem ext_behind (x : UInt8) (r : List UInt8) : (⟨(x :: r).toArray⟩ : ByteArray).extract 1 (r.length + 1) = ⟨r.toArray⟩ := by
  apply ByteArray.ext
  apply Array.toList_inj.1
  rw [ByteArray.data_extract, Array.toList_extract, List.extract_eq_take_drop]
  simp
theorem ext_ahead (l : List UInt8) (x : UInt8) : (⟨(l ++ [x]).toArray⟩ : ByteArray).extract 0 l.length = ⟨l.toArray⟩ := by
  apply ByteArray.ext
  apply Array.toList_inj.1
  rw [ByteArray.data_extract, Array.toList_extract, List.extract_eq_take_drop]
  simp
theorem last_facts {r l : List UInt8} {x : UInt8} (h : r = l ++ [x]) : (∀ h, (⟨r.toArray⟩ : ByteArray)[l.length]'h = x) ∧ (⟨r.toArray⟩ : ByteArray).size = l.length + 1 ∧ (⟨r.toArray⟩ : ByteArray).extract 0 l.length = ⟨l.toArray⟩ ∧ r.length = l.length + 1 := by
  subst h
  exact ⟨fun _ => by rw [oc_get (l ++ [x]) l.length (by simp)]; simp, by rw [oc_size]; simp, ext_ahead l x, by simp⟩
theorem blk_three (c : UInt8) : (((c.toNat : Int) == 32) = true ∧ blkW c = true) ∨ (((c.toNat : Int) == 32) = false ∧ ((c.toNat : Int) == 9) = true ∧ blkW c = true) ∨ (((c.toNat : Int) == 32) = false ∧ ((c.toNat : Int) == 9) = false ∧ blkW c = false) := by
  by_cases h1 : c = 32
  · subst h1; exact .inl ⟨rfl, rfl⟩
  · by_cases h2 : c = 9
    · subst h2; exact .inr (.inl ⟨rfl, rfl, rfl⟩)
    · exact .inr (.inr ⟨u8_ne (n := 32) h1, u8_ne (n := 9) h2, by simp [blkW, h1, h2]⟩)

set_option maxRecDepth 100000 in
set_option maxHeartbeats 4000000 in
theorem rTrim_any (s : List UInt8) (w : World) (hs : s.length ≤ 1099511627776) : Calls Tryd.prog 43 #[encS s] w fun e w' => e = .returned (encS (trimW s)) ∧ w = w' := by
  go_enter Tryd.func43, Tryd.ntmps43
  go_wp2
  go_loopw [0] (fun v wr => ∃ r : List UInt8, v = encS r ∧ r.length ≤ 1099511627776 ∧ Hid (trimW s = trimE (r.dropWhile blkW)) ∧ Hid (w = wr)) (fun v _ => match v with | .string t => t.size | _ => 0)
  case atStart => exact ⟨s, rfl, hs, hid rfl, hid rfl⟩
  case round =>
    obtain ⟨r, rfl, hr, HR, HW⟩ := hrel
    have hex : r = [] ∨ (∃ x t, r = x :: t ∧ blkW x = false ∧ ((x.toNat : Int) == 32) = false ∧ ((x.toNat : Int) == 9) = false) ∨ (∃ x t, r = x :: t ∧ blkW x = true ∧ (((x.toNat : Int) == 32) = true ∨ (((x.toNat : Int) == 32) = false ∧ ((x.toNat : Int) == 9) = true))) := by
      cases r with
      | nil => exact .inl rfl
      | cons x t =>
        rcases blk_three x with ⟨h1, h2⟩ | ⟨h1, h2, h3⟩ | ⟨h1, h2, h3⟩
        · exact .inr (.inr ⟨x, t, rfl, h2, .inl h1⟩)
        · exact .inr (.inr ⟨x, t, rfl, h3, .inr ⟨h1, h2⟩⟩)
        · exact .inr (.inl ⟨x, t, rfl, h3, h1, h2⟩)
    rcases hex with rfl | ⟨x, t, rfl, hb, h1, h2⟩ | ⟨x, t, rfl, hb, hq⟩
    rotate_right
    · have hg := oc_get (x :: t) 0 (by simp)
      simp only [List.getElem_cons_zero] at hg
      have hsz := oc_size (x :: t)
      have hxt := ext_behind x t
      have HR2 : Hid (trimW s = trimE (t.dropWhile blkW)) := hid (by rw [HR.out, List.dropWhile_cons, if_pos hb])
      have htl : t.length ≤ 1099511627776 := by simp at hr; omega
      clear hb HR
      rcases hq with h1 | ⟨h1, h2⟩
      all_goals
        go_wp2
        go_roundw
        case rel => exact ⟨t, rfl, htl, HR2, HW⟩
        case measure => first | (simp [ByteArray.size]; done) | (rw [hxt]; simp [ByteArray.size])
    · have HT : Hid (trimW s = trimE []) := hid HR.out
      clear HR
      go_wp2
      go_loopw [0] (fun v wr => ∃ r : List UInt8, v = encS r ∧ r.length ≤ 1099511627776 ∧ Hid (trimW s = trimE r) ∧ Hid (w = wr)) (fun v _ => match v with | .string t => t.size | _ => 0)
      case atStart => exact ⟨_, rfl, hr, HT, HW⟩
      case round =>
        obtain ⟨r, rfl, hr, HR, HW⟩ := hrel
        rcases List.eq_nil_or_concat r with rfl | ⟨l, x, h0⟩
        · have HE : Hid (trimW s = []) := hid HR.out
          clear HR HT
          go_wp2
          go_ret
          exact ⟨by rw [HE.out]; rfl, HW.out⟩
        · rw [List.concat_eq_append] at h0
          obtain ⟨hg, hsz, hxt, hn⟩ := last_facts h0
          have HR := hid (HR.out.trans (congrArg trimE h0))
          have H0 := hid h0
          have hll : l.length ≤ 1099511627776 := by omega
          clear h0
          rcases blk_three x with ⟨h1, h2⟩ | ⟨h1, h2, h3⟩ | ⟨h1, h2, h3⟩
          · have HR2 : Hid (trimW s = trimE l) := hid (by rw [HR.out, trimE_blank h2])
            clear HR HT h2
            go_wp2
            go_roundw
            case rel => exact ⟨l, rfl, hll, HR2, HW⟩
            case measure => simp [ByteArray.size]; omega
          · have HR2 : Hid (trimW s = trimE l) := hid (by rw [HR.out, trimE_blank h3])
            clear HR HT h3
            go_wp2
            go_roundw
            case rel => exact ⟨l, rfl, hll, HR2, HW⟩
            case measure => simp [ByteArray.size]; omega
          · have HE : Hid (trimW s = r) := hid (by rw [HR.out, trimE_other h3, H0.out])
            clear HR HT h3
            go_wp2
            go_ret
            exact ⟨by rw [HE.out]; rfl, HW.out⟩
    · have HT : Hid (trimW s = trimE (x :: t)) := hid (by rw [HR.out, List.dropWhile_cons, if_neg (by rw [hb]; decide)])
      have hg := oc_get (x :: t) 0 (by simp)
      simp only [List.getElem_cons_zero] at hg
      have hsz := oc_size (x :: t)
      clear HR hb
      go_wp2
      clear hg hsz h1 h2
      go_loopw [0] (fun v wr => ∃ r : List UInt8, v = encS r ∧ r.length ≤ 1099511627776 ∧ Hid (trimW s = trimE r) ∧ Hid (w = wr)) (fun v _ => match v with | .string t => t.size | _ => 0)
      case atStart => exact ⟨_, rfl, hr, HT, HW⟩
      case round =>
        obtain ⟨r, rfl, hr, HR, HW⟩ := hrel
        rcases List.eq_nil_or_concat r with rfl | ⟨l, x, h0⟩
        · have HE : Hid (trimW s = []) := hid HR.out
          clear HR HT
          go_wp2
          go_ret
          exact ⟨by rw [HE.out]; rfl, HW.out⟩
        · rw [List.concat_eq_append] at h0
          obtain ⟨hg, hsz, hxt, hn⟩ := last_facts h0
          have HR := hid (HR.out.trans (congrArg trimE h0))
          have H0 := hid h0
          have hll : l.length ≤ 1099511627776 := by omega
          clear h0
          rcases blk_three x with ⟨h1, h2⟩ | ⟨h1, h2, h3⟩ | ⟨h1, h2, h3⟩
          · have HR2 : Hid (trimW s = trimE l) := hid (by rw [HR.out, trimE_blank h2])
            clear HR HT h2
            go_wp2
            go_roundw
            case rel => exact ⟨l, rfl, hll, HR2, HW⟩
            case measure => simp [ByteArray.size]; omega
          · have HR2 : Hid (trimW s = trimE l) := hid (by rw [HR.out, trimE_blank h3])
            clear HR HT h3
            go_wp2
            go_roundw
            case rel => exact ⟨l, rfl, hll, HR2, HW⟩
            case measure => simp [ByteArray.size]; omega
          · have HE : Hid (trimW s = r) := hid (by rw [HR.out, trimE_other h3, H0.out])
            clear HR HT h3
            go_wp2
            go_ret
            exact ⟨by rw [HE.out]; rfl, HW.out⟩
end Go.Proofs.YtnedjpopadkdeaaDoor
