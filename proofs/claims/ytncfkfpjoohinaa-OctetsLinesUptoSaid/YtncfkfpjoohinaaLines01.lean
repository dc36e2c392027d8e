/- The walk of the statement OctetsLines: whatever the text of at most 2^40 octets, the law returns true, and what was in memory has not turned. -/
import Derived.Test.YtncfkfpjoohinaaLinesB
import Derived.Test.YtncfkfpjoohinaaAlive01
import Derived.Test.YtncfkfpjoohinaaLift
namespace Go.Proofs.Ytncfkfpjoohinaa
open Go.RowKit
open Go.Lib (hid)

/-- Lines with a newline behind each. -/
def joinL (ls : List (List UInt8)) : List UInt8 := ls.flatMap fun x => x ++ [10]
theorem joinL_snoc (ls : List (List UInt8)) (x : List UInt8) : joinL (ls ++ [x]) = joinL ls ++ x ++ [10] := by simp [joinL]

theorem joinL_take_le (ls : List (List UInt8)) (k : Nat) : (joinL (ls.take k)).length ≤ (joinL ls).length := by
  have h : joinL ls = joinL (ls.take k) ++ joinL (ls.drop k) := by
    unfold joinL; rw [← List.flatMap_append, List.take_append_drop]
  rw [h, List.length_append]; omega

theorem join_lines : ∀ (n : Nat) (l : List UInt8), l.length ≤ n → joinL (linesL l) = l ∨ joinL (linesL l) = l ++ [10]
  | _, [], _ => .inl (by rw [linesL]; rfl)
  | 0, c :: r, h => by simp at h
  | n + 1, c :: r, h => by
    have hj : joinL (linesL (c :: r)) = lineOf (c :: r) ++ [10] ++ joinL (linesL (restOf (c :: r))) := by rw [linesL]; simp [joinL]
    have hlt := restOf_lt c r
    rw [hj]
    rcases index_ten (c :: r) with ⟨_, h2, h3⟩ | ⟨i, h1, h2, h3, h4⟩
    · refine .inr ?_
      rw [h2, h3, linesL]
      simp [joinL]
    · have hi := (Lib.indexByte_some h1).1
      have hs : lineOf (c :: r) ++ [10] ++ restOf (c :: r) = c :: r := by
        rw [h3, h4]
        have h5 : (c :: r)[i] = 10 := by
          rw [List.getElem?_eq_getElem h2] at hi; exact Option.some.inj hi
        rw [List.append_assoc]
        show (c :: r).take i ++ (10 :: (c :: r).drop (i + 1)) = c :: r
        rw [← h5, ← List.drop_eq_getElem_cons h2, List.take_append_drop]
      rcases join_lines n (restOf (c :: r)) (by simp only [List.length_cons] at h hlt ⊢; omega) with e | e
      · exact .inl (by rw [e, hs])
      · refine .inr ?_
        rw [e, ← List.append_assoc, hs]

theorem lines_noTen : ∀ (n : Nat) (l : List UInt8), l.length ≤ n → ∀ x ∈ linesL l, ∀ c ∈ x, c ≠ 10
  | _, [], _, x, hx => by rw [linesL] at hx; cases hx
  | 0, c :: r, h, _, _ => by simp at h
  | n + 1, c :: r, h, x, hx => by
    have hlt := restOf_lt c r
    rw [linesL] at hx
    rcases List.mem_cons.1 hx with rfl | hx
    · intro d hd
      have h1 := List.all_takeWhile (p := (· != 10)) (l := c :: r)
      have h2 := List.all_eq_true.1 h1 d hd
      simpa using h2
    · exact lines_noTen n (restOf (c :: r)) (by simp only [List.length_cons] at h hlt ⊢; omega) x hx

theorem lines_len : ∀ (n : Nat) (l : List UInt8), l.length ≤ n → (linesL l).length ≤ l.length ∧ ∀ x ∈ linesL l, x.length ≤ l.length
  | _, [], _ => by rw [linesL]; simp
  | 0, c :: r, h => by simp at h
  | n + 1, c :: r, h => by
    have hlt := restOf_lt c r
    have hlr := lineOf_rest (c :: r)
    obtain ⟨h1, h2⟩ := lines_len n (restOf (c :: r)) (by simp only [List.length_cons] at h hlt ⊢; omega)
    rw [linesL]
    refine ⟨by rw [List.length_cons]; omega, fun x hx => ?_⟩
    rcases List.mem_cons.1 hx with rfl | hx
    · omega
    · have := h2 x hx; omega

theorem ne_u8 {c : UInt8} {n : Nat} (h : c ≠ n.toUInt8) : ((c.toNat : Int) == (n : Int)) = false := by
  have h2 : c.toNat ≠ n := fun e => h (by rw [← e]; simp)
  simp; omega
theorem app_toList (s t : ByteArray) : (s ++ t).data.toList = s.data.toList ++ t.data.toList := by
  rw [ByteArray.data_append, Array.toList_append]

set_option maxHeartbeats 4000000 in
theorem lines_walk (s : ByteArray) (w : World) (hs : s.size ≤ 1099511627776) :
    Calls Try.prog 4 #[.string s] w fun e w' => e = .returned (.bool true) ∧ Below w.heap.size w w' := by
  go_enter Try.func4, Try.ntmps4
  go_wp2_with fail
  refine (alive_any _).mono ?_
  rintro e w1 ⟨rfl, hb1⟩
  go_wp2_with fail
  refine (lines_any s _ hs).mono ?_
  rintro e w2 ⟨A, cap, rfl, hown, hb2⟩
  have hB : Below w.heap.size w w2 := hb1.trans (hb2.mono hb1.size)
  clear hb1 hb2
  have HJ := hid (join_lines _ s.data.toList (Nat.le_refl _))
  have HT := hid (lines_noTen _ s.data.toList (Nat.le_refl _))
  have htx := TextsAt.of_own hown
  clear hown
  obtain ⟨hlen, hxl⟩ := lines_len _ s.data.toList (Nat.le_refl _)
  rw [len_toList] at hlen hxl
  obtain ⟨ls, hls⟩ : ∃ ls, linesL s.data.toList = ls := ⟨_, rfl⟩
  rw [hls] at HJ HT htx hlen hxl
  rw [hls]
  clear hls
  go_wp2_with fail
  go_loop [4, 5] (fun t i => ∃ (k : Nat) (T : ByteArray), k ≤ ls.length ∧ i = .int .i64 k ∧ t = .string T ∧ Hid (T.data.toList = joinL (ls.take k))) (fun _ i => ls.length - (intOf i).toNat)
  case atStart => exact ⟨0, ⟨#[]⟩, Nat.zero_le _, rfl, rfl, hid rfl⟩
  case round =>
    obtain ⟨k, T, hk, rfl, rfl, HTk⟩ := hrel
    by_cases hlt : k < ls.length
    · obtain ⟨ad, rfl, hc⟩ := htx k hlt
      obtain ⟨X, hX⟩ : ∃ X, (⟨ls[k].toArray⟩ : ByteArray) = X := ⟨_, rfl⟩
      have hXl : X.data.toList = ls[k] := by rw [← hX]
      have hc' : w2.cell? (ad.add k) = some (.string X) := by rw [← hX]; exact hc
      have hXs : X.size ≤ 1099511627776 := by rw [← len_toList, hXl]; exact Nat.le_trans (hxl _ (List.getElem_mem hlt)) hs
      have hTs : T.size ≤ 1099511627777 := by
        have h1 := joinL_take_le ls k
        rw [← HTk.out, len_toList] at h1
        rcases HJ.out with e | e <;> rw [e] at h1
        · rw [len_toList] at h1; omega
        · rw [List.length_append, len_toList] at h1
          simp at h1; omega
      have HN : Hid (∀ m (h : m < X.size), ((X[m].toNat : Int) == 10) = false) := hid (fun m h => ne_u8 (n := 10) (HT.out _ (List.getElem_mem hlt) _ (by rw [← hXl]; exact List.getElem_mem (by simpa using h))))
      have HK : Hid ((T ++ X ++ ⟨#[10]⟩ : ByteArray).data.toList = joinL (ls.take (k + 1))) := hid (by
        rw [app_toList, app_toList, HTk.out, hXl, List.take_succ_eq_append_getElem hlt, joinL_snoc])
      clear hX hXl hc htx HTk hxl
      go_wp2_with fail
      go_loop [6] (fun j => ∃ m : Nat, m ≤ X.size ∧ j = .int .i64 m) (fun j => X.size - (intOf j).toNat)
      case atStart => exact ⟨0, Nat.zero_le _, rfl⟩
      case round =>
        obtain ⟨m, hm, rfl⟩ := hrel
        by_cases hmt : m < X.size
        · have g1 := HN.out m hmt
          go_wp2_with fail
          go_round
          case rel => exact ⟨m + 1, by omega, by go_num⟩
          case measure => simp [intOf]; omega
        · obtain rfl : m = X.size := by omega
          go_wp2_with fail
          go_round
          case rel => exact ⟨k + 1, T ++ X ++ ⟨#[10]⟩, by omega, by go_num, rfl, HK⟩
          case measure => simp [intOf]; omega
    · obtain rfl : k = ls.length := by omega
      have hT := HTk.out
      rw [List.take_length] at hT
      clear htx hxl HTk
      rcases HJ.out with e | e
      · rw [e] at hT
        obtain rfl : T = s := ByteArray.ext (Array.toList_inj.1 hT)
        clear hT e
        go_wp2_with fail
        go_ret
        exact ⟨rfl, hB⟩
      · rw [e] at hT
        obtain rfl : T = s ++ ⟨#[10]⟩ := ByteArray.ext (Array.toList_inj.1 (by rw [hT, app_toList]))
        have g1 : ((s ++ ⟨#[10]⟩ : ByteArray).toList == s.toList) = false := by
          rw [beq_eq_false_iff_ne]
          intro h
          have := congrArg List.length h
          rw [toList_data, toList_data, app_toList] at this
          simp at this
        clear hT e
        go_wp2_with fail
        go_ret
        exact ⟨rfl, hB⟩

theorem small_str {H : Type} {s : ByteArray} (hk : Rows.uptoSmall H [.lit (.string s.data.toList)] = true) : s.size ≤ 1048576 := by
  have h : Rows.uptoBulkAll [DataW.lit (H := H) (.string s.data.toList)] ≤ 1048576 := of_decide_eq_true hk
  simp only [Rows.uptoBulkAll, Rows.uptoBulk] at h
  rw [len_toList] at h
  omega

theorem lines_upto {H : Type} (s : ByteArray) (w : World) (_hs : s.size ≤ 140737488351232) (hk : Rows.uptoSmall H [.lit (.string s.data.toList)] = true) :
    Calls Try.prog 4 #[.string s] w fun e w' => e = .returned (.bool true) ∧ Below w.heap.size w w' :=
  lines_walk s w (by have := small_str hk; omega)
end Go.Proofs.Ytncfkfpjoohinaa
