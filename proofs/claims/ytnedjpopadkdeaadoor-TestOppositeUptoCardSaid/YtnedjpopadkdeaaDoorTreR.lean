
/- Contracts of the reference's Parts, Joined, Path, above. Conditions: sizes. -/
import Derived.Test.YtnedjpopadkdeaaDoorTreM
import Derived.Test.YtnedjpopadkdeaaDoorMmS
import Derived.Deep.AppendLies
namespace Go.Proofs.YtnedjpopadkdeaaDoor
open Go.RowKit
open Go.Lib (hid)

theorem mk_size (l : List UInt8) : (⟨l.toArray⟩ : ByteArray).size = l.length := by show l.toArray.size = _; simp
theorem mk_get (l : List UInt8) (k : Nat) (h : k < l.length) : (⟨l.toArray⟩ : ByteArray)[k]'(by rw [mk_size]; exact h) = l[k] := rfl
theorem own_len {w : World} {N n c : Nat} {e : TypeId} {A : Option Addr} {xs : List Value} (h : w.ownsRow N e 1 (.slice A n c) n xs) : n ≤ c := by
  rcases h.2 with ⟨hv, h0⟩ | ⟨g, cap, cur, hv, _, _, h3, _⟩
  · omega
  · cases hv; exact h3
theorem slice_text (l : List UInt8) (f k : Nat) (hf : f ≤ k) (hk : k ≤ l.length) (W : World) :
    (Instr.slice 9 (.string ⟨l.toArray⟩) (some (.int .i64 (f : Int))) (some (.int .i64 (k : Int))) none).run Tryd.prog W = .ok (.string ⟨((l.drop f).take (k - f)).toArray⟩) W := by
  have hz := mk_size l
  have h := run_slice_string (P := Tryd.prog) W 9 ⟨l.toArray⟩ .i64 .i64 (f : Int) (k : Int) Tryd.underlying9 (by omega) (by omega) (by rw [hz]; omega)
  rw [h]
  simp [ByteArray.extract_mk]

set_option maxRecDepth 100000 in
set_option maxHeartbeats 8000000 in
theorem rParts_any (l : List UInt8) (w : World) (hs : l.length ≤ 1099511627776) :
    Calls Tryd.prog 72 #[encS l] w fun e w' => ∃ A c, e = .returned (.slice A (partsL l).length c) ∧ w'.ownsRow w.heap.size 9 1 (.slice A (partsL l).length c) (partsL l).length ((partsL l).map encS) ∧ Below w.heap.size w w' := by
  obtain ⟨i0, hi, hz0, hz1, hz2⟩ := info_parts info_str
  go_enter Tryd.func72, Tryd.ntmps72
  go_wp2
  go_loopw [3, 4, 5] (fun v fr i wr => ∃ (k f : Nat) (ls : List (List UInt8)) (a : Option Addr) (c : Nat), i = .int .i64 k ∧ fr = .int .i64 f ∧ v = .slice a ls.length c ∧ ls.length ≤ k ∧ f ≤ k ∧ k ≤ l.length + 1 ∧ PRel l k f ls ∧ wr.ownsRow w.heap.size 9 1 (.slice a ls.length c) ls.length (ls.map encS) ∧ Below w.heap.size w wr) (fun _ _ i _ => l.length + 1 - (intOf i).toNat)
  case atStart => exact ⟨0, 0, [], none, 0, rfl, rfl, rfl, Nat.le_refl _, Nat.le_refl _, Nat.zero_le _, PRel.start l, World.ownsRow_nil _ _ _ _, Below.refl _ _⟩
  case round =>
    obtain ⟨k, f, ls, a, c, rfl, rfl, rfl, hlk, hfk, hk, hP, hO, hB⟩ := hrel
    by_cases hle : k ≤ l.length
    · by_cases hc : ∃ h : k < l.length, l[k] ≠ 47
      · obtain ⟨hlt, hc⟩ := hc
        have HP := hid (hP.on hlt hc)
        have g1 : (((⟨l.toArray⟩ : ByteArray)[k]'(by rw [mk_size]; exact hlt)).toNat != 47) = true := by
          rw [mk_get l k hlt]
          have := u8_ne (n := 47) hc
          simp at this ⊢; omega
        have g1' : ((((⟨l.toArray⟩ : ByteArray)[k]'(by rw [mk_size]; exact hlt)).toNat : Int) != 47) = true := by
          simp at g1 ⊢; omega
        have HF := hid (And.intro hO hB)
        clear hc hP hO hB g1
        go_wp2
        go_roundw
        case rel => exact ⟨k + 1, f, ls, a, c, by go_num, rfl, rfl, by omega, by omega, by omega, HP.out, HF.out.1, HF.out.2⟩
        case measure => simp [intOf]; omega
      · have hc2 : ∀ h : k < l.length, l[k] = 47 := fun h => Classical.byContradiction fun hn => hc ⟨h, hn⟩
        have HP0 := hid (hP.cut hle hc2)
        have hsl := slice_text l f k hfk hle
        have hcap := own_len hO
        obtain ⟨cur, hcur⟩ : ∃ cur, (l.drop f).take (k - f) = cur := ⟨_, rfl⟩
        rw [hcur] at HP0 hsl
        have HS := hid (stepP_len ls cur)
        clear hc hP hcur
        by_cases hlt : k < l.length
        · have g1 : ((((⟨l.toArray⟩ : ByteArray)[k]'(by rw [mk_size]; exact hlt)).toNat : Int) != 47) = false := by
            rw [mk_get l k hlt, hc2 hlt]; rfl
          clear hc2
          by_cases e0 : cur = []
          · subst e0
            have HP : Hid (PRel l (k + 1) (k + 1) ls) := hid HP0.out
            have HF := hid (And.intro hO hB)
            clear HP0 hO hB HS
            go_wp2
            go_roundw
            case rel => exact ⟨k + 1, k + 1, ls, a, c, by go_num, by go_num, rfl, by omega, by omega, by omega, HP.out, HF.out.1, HF.out.2⟩
            case measure => simp [intOf]; omega
          by_cases e1 : cur = [46]
          · subst e1
            have HP : Hid (PRel l (k + 1) (k + 1) ls) := hid HP0.out
            have HF := hid (And.intro hO hB)
            clear HP0 hO hB HS e0
            go_wp2
            go_roundw
            case rel => exact ⟨k + 1, k + 1, ls, a, c, by go_num, by go_num, rfl, by omega, by omega, by omega, HP.out, HF.out.1, HF.out.2⟩
            case measure => simp [intOf]; omega
          by_cases e2 : cur = [46, 46]
          · subst e2
            have HP : Hid (PRel l (k + 1) (k + 1) ls.dropLast) := hid HP0.out
            by_cases hm : ls = []
            · subst hm
              have HF := hid (And.intro hO hB)
              clear HP0 hO hB HS e0 e1
              go_wp2
              go_roundw
              case rel => exact ⟨k + 1, k + 1, [], a, c, by go_num, by go_num, rfl, by simp, by omega, by omega, HP.out, HF.out.1, HF.out.2⟩
              case measure => simp [intOf]; omega
            · obtain ⟨m, hm⟩ : ∃ m, ls.length = m + 1 := ⟨ls.length - 1, by have := List.length_pos_iff.2 hm; omega⟩
              have hd : ls.dropLast.length = m := by rw [List.length_dropLast]; omega
              rw [hm] at hO
              have hO2 := own_pop hO
              rw [← List.map_dropLast] at hO2
              have hg : (0 : Int) < (ls.length : Int) := by omega
              have hg1 : (1 : Int) ≤ (ls.length : Int) := by omega
              have hg2 : (ls.length : Int) - 1 ≤ (c : Int) := by omega
              have hz : ls.length - 1 = ls.dropLast.length := by omega
              have HF := hid (And.intro hO2 hB)
              have HD := hid hd
              have HZ := hid hz
              clear HP0 hO hB HS e0 e1 hO2 hd hz hm
              go_wp2
              go_roundw
              case rel => exact ⟨k + 1, k + 1, ls.dropLast, a, c, by go_num, by go_num, by rw [HZ.out], by have := HD.out; have := HZ.out; omega, by omega, by omega, HP.out, by rw [HD.out]; exact HF.out.1, HF.out.2⟩
              case measure => simp [intOf]; omega
          have HP : Hid (PRel l (k + 1) (k + 1) (ls ++ [cur])) := hid (by
            have h := HP0.out
            unfold stepP at h
            rw [if_neg (by rintro (h | h); exact e0 h; exact e1 h), if_neg e2] at h
            exact h)
          have q0 : cur.isEmpty = false := by cases cur with | nil => exact absurd rfl e0 | cons x r => rfl
          have q1 : (cur == [46]) = false := by simpa using e1
          have q2 : (cur == [46, 46]) = false := by simpa using e2
          have q3 : (cur == []) = false := by simpa using e0
          clear HP0 HS e1 e2
          go_wp2_with (at_builtin; refine wpList_append_own _ rfl _ _ 22 rfl w.heap.size 9 i0 (.string .empty) 1 16 Tryd.underlying22 hi hz0 hz1 hz2 rfl (by decide) _ _ _ rfl (hO.alloc _) ⟨wr.heap.size, 0, none⟩ 1 1 [encS cur] rfl rfl ?c1 ?c2 ?c3 ?c4 ?c5 ?_)
          case c1 => exact World.news_of_block (cs := #[.string ⟨cur.toArray⟩]) (t := 9) (fr := (0, 0)) (heap_alloc_new wr _)
          case c2 => simp [Value.oneCell']
          case c3 => unfold maxLen; omega
          case c4 => omega
          case c5 => have := hB.size; simp; omega
          intro v' w8 hown8 hg _
          obtain ⟨g', cap', rfl⟩ := ownsRow_succ hown8
          have hB8 : Below w.heap.size w w8 := (hB.alloc hB.size _).grown hg (by have := hB.size; simp; omega) (fun j e => (hO.lt j e).1)
          have HF := hid (And.intro hown8 hB8)
          clear hB8 hown8 hg hO hB
          go_wp2_with fail
          go_roundw
          case rel => exact ⟨k + 1, k + 1, ls ++ [cur], some ⟨g', 0, none⟩, cap', by go_num, by go_num, by simp, by simp; omega, by omega, by omega, HP.out, by rw [List.length_append, List.map_append]; exact HF.out.1, HF.out.2⟩
          case measure => simp [intOf]; omega
        · have g1 : decide ((k : Int) < (l.length : Int)) = false := by simp; omega
          clear hc2
          by_cases e0 : cur = []
          · subst e0
            have HP : Hid (PRel l (k + 1) (k + 1) ls) := hid HP0.out
            have HF := hid (And.intro hO hB)
            clear HP0 hO hB HS
            go_wp2
            go_roundw
            case rel => exact ⟨k + 1, k + 1, ls, a, c, by go_num, by go_num, rfl, by omega, by omega, by omega, HP.out, HF.out.1, HF.out.2⟩
            case measure => simp [intOf]; omega
          by_cases e1 : cur = [46]
          · subst e1
            have HP : Hid (PRel l (k + 1) (k + 1) ls) := hid HP0.out
            have HF := hid (And.intro hO hB)
            clear HP0 hO hB HS e0
            go_wp2
            go_roundw
            case rel => exact ⟨k + 1, k + 1, ls, a, c, by go_num, by go_num, rfl, by omega, by omega, by omega, HP.out, HF.out.1, HF.out.2⟩
            case measure => simp [intOf]; omega
          by_cases e2 : cur = [46, 46]
          · subst e2
            have HP : Hid (PRel l (k + 1) (k + 1) ls.dropLast) := hid HP0.out
            by_cases hm : ls = []
            · subst hm
              have HF := hid (And.intro hO hB)
              clear HP0 hO hB HS e0 e1
              go_wp2
              go_roundw
              case rel => exact ⟨k + 1, k + 1, [], a, c, by go_num, by go_num, rfl, by simp, by omega, by omega, HP.out, HF.out.1, HF.out.2⟩
              case measure => simp [intOf]; omega
            · obtain ⟨m, hm⟩ : ∃ m, ls.length = m + 1 := ⟨ls.length - 1, by have := List.length_pos_iff.2 hm; omega⟩
              have hd : ls.dropLast.length = m := by rw [List.length_dropLast]; omega
              rw [hm] at hO
              have hO2 := own_pop hO
              rw [← List.map_dropLast] at hO2
              have hg : (0 : Int) < (ls.length : Int) := by omega
              have hg1 : (1 : Int) ≤ (ls.length : Int) := by omega
              have hg2 : (ls.length : Int) - 1 ≤ (c : Int) := by omega
              have hz : ls.length - 1 = ls.dropLast.length := by omega
              have HF := hid (And.intro hO2 hB)
              have HD := hid hd
              have HZ := hid hz
              clear HP0 hO hB HS e0 e1 hO2 hd hz hm
              go_wp2
              go_roundw
              case rel => exact ⟨k + 1, k + 1, ls.dropLast, a, c, by go_num, by go_num, by rw [HZ.out], by have := HD.out; have := HZ.out; omega, by omega, by omega, HP.out, by rw [HD.out]; exact HF.out.1, HF.out.2⟩
              case measure => simp [intOf]; omega
          have HP : Hid (PRel l (k + 1) (k + 1) (ls ++ [cur])) := hid (by
            have h := HP0.out
            unfold stepP at h
            rw [if_neg (by rintro (h | h); exact e0 h; exact e1 h), if_neg e2] at h
            exact h)
          have q0 : cur.isEmpty = false := by cases cur with | nil => exact absurd rfl e0 | cons x r => rfl
          have q1 : (cur == [46]) = false := by simpa using e1
          have q2 : (cur == [46, 46]) = false := by simpa using e2
          have q3 : (cur == []) = false := by simpa using e0
          clear HP0 HS e1 e2
          go_wp2_with (at_builtin; refine wpList_append_own _ rfl _ _ 22 rfl w.heap.size 9 i0 (.string .empty) 1 16 Tryd.underlying22 hi hz0 hz1 hz2 rfl (by decide) _ _ _ rfl (hO.alloc _) ⟨wr.heap.size, 0, none⟩ 1 1 [encS cur] rfl rfl ?c1 ?c2 ?c3 ?c4 ?c5 ?_)
          case c1 => exact World.news_of_block (cs := #[.string ⟨cur.toArray⟩]) (t := 9) (fr := (0, 0)) (heap_alloc_new wr _)
          case c2 => simp [Value.oneCell']
          case c3 => unfold maxLen; omega
          case c4 => omega
          case c5 => have := hB.size; simp; omega
          intro v' w8 hown8 hg _
          obtain ⟨g', cap', rfl⟩ := ownsRow_succ hown8
          have hB8 : Below w.heap.size w w8 := (hB.alloc hB.size _).grown hg (by have := hB.size; simp; omega) (fun j e => (hO.lt j e).1)
          have HF := hid (And.intro hown8 hB8)
          clear hB8 hown8 hg hO hB
          go_wp2_with fail
          go_roundw
          case rel => exact ⟨k + 1, k + 1, ls ++ [cur], some ⟨g', 0, none⟩, cap', by go_num, by go_num, by simp, by simp; omega, by omega, by omega, HP.out, by rw [List.length_append, List.map_append]; exact HF.out.1, HF.out.2⟩
          case measure => simp [intOf]; omega
    · obtain rfl : k = l.length + 1 := by omega
      have he : ls = partsL l := by
        rcases hP with ⟨h1, _⟩ | ⟨_, h⟩
        · omega
        · exact h
      have HF := hid (And.intro hO (And.intro he hB))
      have g1 : decide (((l.length + 1 : Nat) : Int) ≤ (l.length : Int)) = false := by simp; omega
      clear hO hP he hB
      go_wp2_with fail
      go_ret
      rw [← HF.out.2.1]
      exact ⟨a, c, rfl, HF.out.1, HF.out.2.2⟩
end Go.Proofs.YtnedjpopadkdeaaDoor
