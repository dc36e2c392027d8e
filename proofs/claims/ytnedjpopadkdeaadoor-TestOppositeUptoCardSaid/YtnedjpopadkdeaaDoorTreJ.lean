
/- Contracts of the reference's Joined, Path, above. Conditions: sizes. -/
import Derived.Test.YtnedjpopadkdeaaDoorTreR
namespace Go.Proofs.YtnedjpopadkdeaaDoor
open Go.RowKit
open Go.Lib (hid)

theorem slash_take (ls : List (List UInt8)) (k : Nat) (h : k < ls.length) : slashL (ls.take (k + 1)) = slashL (ls.take k) ++ (47 :: ls[k]) := by
  rw [List.take_succ_eq_append_getElem h, slash_append]
  simp [slashL]
theorem slash_len (ls : List (List UInt8)) (k : Nat) (h : k < ls.length) : (slashL (ls.take k)).length + 1 + ls[k].length ≤ (slashL ls).length := by
  have e : slashL ls = slashL (ls.take (k + 1)) ++ slashL (ls.drop (k + 1)) := by rw [← slash_append, List.take_append_drop]
  rw [e, slash_take ls k h]
  simp; omega
theorem bytes_app (a b : List UInt8) : (⟨a.toArray⟩ : ByteArray) ++ ⟨b.toArray⟩ = ⟨(a ++ b).toArray⟩ := by
  apply ByteArray.ext
  simp

set_option maxRecDepth 100000 in
set_option maxHeartbeats 4000000 in
theorem rJoined_any (A : Option Addr) (c : Nat) (ls : List (List UInt8)) (w : World) (hT : TextsP w (fun _ => True) A ls) (hs : (slashL ls).length ≤ 1099511627776) (hl : ls.length ≤ 1099511627776) :
    Calls Tryd.prog 71 #[.slice A ls.length c] w fun e w' => e = .returned (encS (joinL ls)) ∧ w = w' := by
  go_enter Tryd.func71, Tryd.ntmps71
  go_wp2
  go_loop [3, 4] (fun v i => ∃ (k : Nat) (x : List UInt8), k ≤ ls.length ∧ i = .int .i64 k ∧ v = encS x ∧ Hid (x = slashL (ls.take k)) ∧ x.length ≤ 1099511627776) (fun _ i => ls.length - (intOf i).toNat)
  case atStart => exact ⟨0, [], Nat.zero_le _, rfl, rfl, hid rfl, Nat.zero_le _⟩
  case round =>
    obtain ⟨k, x, hk, rfl, rfl, HX, hx⟩ := hrel
    by_cases hlt : k < ls.length
    · obtain ⟨g, o, rfl, -, hc⟩ := hT k hlt
      have hlen := slash_len ls k hlt
      rw [← HX.out] at hlen
      have HN := hid (slash_take ls k hlt)
      rw [← HX.out] at HN
      obtain ⟨y, hy⟩ : ∃ y, ls[k] = y := ⟨_, rfl⟩
      rw [hy] at hc hlen HN
      have hyl : y.length ≤ 1099511627776 := by omega
      clear hT hy
      go_wp2
      go_round
      case rel => exact ⟨k + 1, x ++ 47 :: y, by omega, by go_num, by rw [show (⟨#[47]⟩ : ByteArray) = ⟨([47] : List UInt8).toArray⟩ from rfl, bytes_app, bytes_app]; simp [encS], hid (by rw [HN.out]), by simp; omega⟩
      case measure => simp [intOf]; omega
    · obtain rfl : k = ls.length := by omega
      have HX2 : Hid (x = slashL ls) := hid (by rw [HX.out, List.take_length])
      clear HX hT
      by_cases he : ls = []
      · subst he
        obtain rfl : x = [] := HX2.out
        go_wp2
        go_ret
        exact ⟨rfl, rfl⟩
      · have hx0 : x ≠ [] := by
          rw [HX2.out]
          obtain ⟨y, r, rfl⟩ : ∃ y r, ls = y :: r := by cases ls with | nil => exact absurd rfl he | cons y r => exact ⟨y, r, rfl⟩
          simp [slashL]
        have HJ : Hid (joinL ls = x) := hid (by unfold joinL; rw [if_neg he, HX2.out])
        have q0 : x.isEmpty = false := by cases x with | nil => exact absurd rfl hx0 | cons y r => rfl
        have q1 : (x == []) = false := by simpa using hx0
        clear he HX2
        go_wp2
        go_ret
        exact ⟨by rw [HJ.out]; rfl, rfl⟩

/-- What Path tells: the path as it is told; an error's number. -/
def pathQ (l : List UInt8) : List UInt8 × Int := if 0 ∈ l ∨ l = [] then ([], 31) else (pathL l, 0)
theorem cut_len : ∀ (s cur : List UInt8), (cutL cur s).length ≤ s.length + 1
  | [], cur => by simp [cutL]
  | c :: r, cur => by
    rw [cutL]
    split
    · have := cut_len r []
      simp; omega
    · have := cut_len r (cur ++ [c])
      simp; omega
theorem cut_sum : ∀ (s cur : List UInt8), (slashL (cutL cur s)).length ≤ cur.length + s.length + 1
  | [], cur => by simp [cutL, slashL]
  | c :: r, cur => by
    rw [cutL]
    split
    · have := cut_sum r []
      simp [slashL] at this ⊢; omega
    · have := cut_sum r (cur ++ [c])
      simp at this ⊢; omega
theorem step_sum (out : List (List UInt8)) (w : List UInt8) : (slashL (stepP out w)).length ≤ (slashL out).length + (w.length + 1) := by
  unfold stepP
  split
  · omega
  · split
    · have e : ∀ l : List (List UInt8), (slashL l.dropLast).length ≤ (slashL l).length := fun l => by
        by_cases h : l = []
        · subst h; simp
        · have e : slashL l = slashL l.dropLast ++ slashL [l.getLast h] := by rw [← slash_append, List.dropLast_concat_getLast]
          rw [e]; simp
      have := e out
      omega
    · rw [slash_append]
      simp [slashL]
theorem fold_sum : ∀ (l out : List (List UInt8)), (slashL (l.foldl stepP out)).length ≤ (slashL out).length + (slashL l).length
  | [], out => by simp [slashL]
  | w :: r, out => by
    have h1 := fold_sum r (stepP out w)
    have h2 := step_sum out w
    have e : (slashL (w :: r)).length = w.length + 1 + (slashL r).length := by simp [slashL]; omega
    rw [List.foldl_cons]
    omega
theorem parts_sum (l : List UInt8) : (slashL (partsL l)).length ≤ l.length + 1 := by
  have h1 := fold_sum (cutL [] l) []
  have h2 := cut_sum l []
  have e : (slashL ([] : List (List UInt8))).length = 0 := rfl
  unfold partsL
  simp at h2
  omega
theorem len_slash (l : List (List UInt8)) : l.length ≤ (slashL l).length := by
  induction l with
  | nil => exact Nat.le_refl _
  | cons w r ih => simp [slashL] at ih ⊢; omega
theorem pathL_len (l : List UInt8) : (pathL l).length ≤ l.length + 1 := by
  unfold pathL joinL
  split
  · simp
  · exact parts_sum l

set_option maxRecDepth 100000 in
set_option maxHeartbeats 4000000 in
theorem rPath_any (l : List UInt8) (w : World) (hs : l.length ≤ 549755813888) :
    Calls Tryd.prog 51 #[encS l] w fun e w' => e = .returned (.tuple #[encS (pathQ l).1, .int .i64 (pathQ l).2]) ∧ Below w.heap.size w w' := by
  have cP := fun W => rParts_any l W (by omega)
  have hp := parts_sum l
  have hpl := len_slash (partsL l)
  go_enter Tryd.func51, Tryd.ntmps51
  go_wp2
  go_loop [4] (fun i => ∃ k : Nat, k ≤ l.length ∧ i = .int .i64 k ∧ Hid (∀ j (h : j < l.length), j < k → l[j] ≠ 0)) (fun i => l.length - (intOf i).toNat)
  case atStart => exact ⟨0, Nat.zero_le _, rfl, hid (fun j _ h => absurd h (Nat.not_lt_zero _))⟩
  case round =>
    obtain ⟨k, hk, rfl, HZ⟩ := hrel
    by_cases hlt : k < l.length
    · by_cases hc : l[k] = 0
      · have g1 : ((((⟨l.toArray⟩ : ByteArray)[k]'(by rw [mk_size]; exact hlt)).toNat : Int) == 0) = true := by rw [mk_get l k hlt, hc]; rfl
        have HQ : Hid (pathQ l = ([], 31)) := hid (by unfold pathQ; rw [if_pos (.inl (by rw [← hc]; exact List.getElem_mem hlt))])
        clear hc HZ cP hp hpl
        go_wp2
        go_ret2
        exact ⟨by rw [HQ.out]; rfl, Below.refl _ _⟩
      · have g1 : ((((⟨l.toArray⟩ : ByteArray)[k]'(by rw [mk_size]; exact hlt)).toNat : Int) == 0) = false := by
          rw [mk_get l k hlt]
          exact u8_ne (n := 0) hc
        have HZ2 : Hid (∀ j (h : j < l.length), j < k + 1 → l[j] ≠ 0) := hid (fun j hj hjk => by
          by_cases e : j = k
          · subst e; exact hc
          · exact HZ.out j hj (by omega))
        clear hc HZ cP hp hpl
        go_wp2
        go_round
        case rel => exact ⟨k + 1, by omega, by go_num, HZ2⟩
        case measure => simp [intOf]; omega
    · obtain rfl : k = l.length := by omega
      have h0 : 0 ∉ l := fun h => by
        obtain ⟨j, hj, e⟩ := List.getElem_of_mem h
        exact HZ.out j hj hj e
      clear HZ
      by_cases he : l = []
      · subst he
        have HQ : Hid (pathQ [] = ([], 31)) := hid rfl
        clear cP hp hpl h0
        go_wp2
        go_ret2
        exact ⟨by rw [HQ.out]; rfl, Below.refl _ _⟩
      · have HQ : Hid (pathQ l = (pathL l, 0)) := hid (by unfold pathQ; rw [if_neg (by rintro (h | h); exact h0 h; exact he h)])
        have q0 : l.isEmpty = false := by cases l with | nil => exact absurd rfl he | cons y r => rfl
        have q1 : (l == []) = false := by simpa using he
        clear h0 he
        go_wp2_with fail
        refine (cP _).mono ?_
        rintro e w1 ⟨A, c, rfl, hO, hb1⟩
        have cJ := rJoined_any A c (partsL l) w1 (TextsP.of_own hO).any (by omega) (by omega)
        have HB := hid hb1
        clear hO hb1 cP hp hpl
        go_wp2_with fail
        refine cJ.mono ?_
        rintro e w2 ⟨rfl, rfl⟩
        go_wp2_with fail
        go_ret2
        exact ⟨by rw [HQ.out]; rfl, HB.out⟩
end Go.Proofs.YtnedjpopadkdeaaDoor
