/- strings.IndexAny at " \t" and any text: the first blank. Conditions: sizes. -/
import Derived.Test.YtchnopfnjkbelaaDoorIdxR
import Derived.Test.YtchnopfnjkbelaaDoorWdM
import Derived.Lib.OthersKept
import Derived.Lib.IndexAny
namespace Go.Proofs.YtchnopfnjkbelaaDoor
open Go.RowKit
open Go.Lib (hid)

/-- Where the first blank stands. -/
def idxW (l : List UInt8) : Int := if l.dropWhile nbW = [] then -1 else (l.takeWhile nbW).length
theorem in_blanks (c : UInt8) : [(32 : UInt8), 9].contains c = blkW c := by
  simp only [blkW, List.contains_cons, List.contains_nil, Bool.or_false]
theorem index_any : ∀ l : List UInt8, Lib.indexAny l [32, 9] = idxW l
  | [] => rfl
  | b :: l => by
    rw [Lib.indexAny, in_blanks, index_any l]
    unfold idxW
    cases hb : blkW b
    · have hn : nbW b = true := by rw [nbW, hb]; rfl
      rw [if_neg (by simp), List.dropWhile_cons, List.takeWhile_cons, if_pos hn, if_pos hn]
      by_cases h : l.dropWhile nbW = []
      · rw [if_pos h, if_pos h]; rfl
      · rw [if_neg h, if_neg h, if_neg (by simp)]
        simp
    · have hn : nbW b = false := by rw [nbW, hb]; rfl
      rw [if_pos rfl, List.dropWhile_cons, List.takeWhile_cons, if_neg (by rw [hn]; simp), if_neg (by rw [hn]; simp)]
      rfl
theorem idx_hit (l : List UInt8) (k : Nat) (h : k < l.length) (h1 : ∀ j (hj : j < l.length), j < k → blkW l[j] = false) (h2 : blkW l[k] = true) : idxW l = k := by
  obtain ⟨a, b⟩ := while_at nbW l k (by omega) (fun j hj hjk => by rw [nbW, h1 j hj hjk]; rfl) (fun _ => by rw [nbW, h2]; rfl)
  unfold idxW
  rw [a, b, if_neg (by intro e; have := congrArg List.length e; simp at this; omega)]
  simp; omega
theorem idx_none (l : List UInt8) (h1 : ∀ j (hj : j < l.length), blkW l[j] = false) : idxW l = -1 := by
  obtain ⟨a, b⟩ := while_at nbW l l.length (Nat.le_refl _) (fun j hj hjk => by rw [nbW, h1 j hj]; rfl) (fun h => absurd h (Nat.lt_irrefl _))
  unfold idxW
  rw [b, List.drop_length, if_pos rfl]

theorem get_list (l : List UInt8) (k : Nat) (h : k < l.length) : (⟨l.toArray⟩ : ByteArray).get! k = l[k] := by
  have hk : k < (⟨l.toArray⟩ : ByteArray).size := by simpa [ByteArray.size] using h
  show (⟨l.toArray⟩ : ByteArray).data[k]! = _
  simp [h]
theorem decode_plain (l : List UInt8) (i : Nat) (h : i < l.length) (ha : 128 ≤ l[i].toNat) : ∀ j (hj : j < l.length), i ≤ j → j < i + (Utf8.decode ⟨l.toArray⟩ i).2 → 128 ≤ l[j].toNat := by
  intro j hj hij hjw
  have hsz : (⟨l.toArray⟩ : ByteArray).size = l.length := by simp [ByteArray.size]
  have g0 := get_list l i h
  have hn : ¬ l[i].toNat < 128 := by omega
  have hc : ∀ k, (decide (i + k < l.length) && (((⟨l.toArray⟩ : ByteArray).get! (i + k)).toNat / 64 == 2)) = true → ∀ (hj : j < l.length), j = i + k → 128 ≤ l[j].toNat := by
    intro k hk hj e
    subst e
    rw [get_list l (i + k) hj] at hk
    simp at hk
    omega
  by_cases e0 : j = i
  · subst e0; exact ha
  simp only [Utf8.decode, Nat.add_zero, g0, if_neg hn, hsz] at hjw
  repeat' split at hjw
  all_goals simp only at hjw
  all_goals first
    | omega
    | skip
  all_goals
    rename_i hq _
    simp only [Bool.and_eq_true] at hq
  all_goals
    have e : j = i + 1 ∨ j = i + 2 ∨ j = i + 3 := by omega
    rcases e with e | e | e
  all_goals first
    | omega
    | skip
  all_goals first
    | exact hc 1 (by simp only [Bool.and_eq_true]; simp_all) hj e
    | exact hc 2 (by simp only [Bool.and_eq_true]; simp_all) hj e
    | exact hc 3 (by simp only [Bool.and_eq_true]; simp_all) hj e
end Go.Proofs.YtchnopfnjkbelaaDoor
