/- number.Parse as the mathematics of printf says it; of a few digits. No conditions. -/
import Derived.Test.YtckmgcdiclkoeaaDoorNumE
import Derived.Test.YtckmgcdiclkoeaaDoorPpE
namespace Go.Proofs.YtckmgcdiclkoeaaDoor
open Go.RowKit
open Go.Lib (hid)

theorem pblank : ∀ x : UInt8, ([(32 : UInt8), 9].contains x) = blkW x := Ans.all_u8 (by decide +kernel)
theorem ptrimE_cons (x : UInt8) (r : List UInt8) : trimE (x :: r) = if trimE r = [] ∧ blkW x = true then [] else x :: trimE r := by
  unfold trimE
  rw [List.reverse_cons, List.dropWhile_append]
  by_cases h : r.reverse.dropWhile blkW = []
  · cases hx : blkW x <;> simp [h, hx]
  · simp [h]
theorem ptrimE_head {u : List UInt8} {x : UInt8} (hx : blkW x = false) : ∃ v, trimE (x :: u) = x :: v := by
  rw [ptrimE_cons, if_neg (by rw [hx]; simp)]
  exact ⟨_, rfl⟩
theorem ptrim_swap : ∀ l : List UInt8, (trimE l).dropWhile blkW = trimE (l.dropWhile blkW)
  | [] => rfl
  | x :: r => by
    have ih := ptrim_swap r
    cases hx : blkW x
    · obtain ⟨v, hv⟩ := ptrimE_head (u := r) hx
      rw [List.dropWhile_cons, if_neg (by rw [hx]; simp), hv, List.dropWhile_cons, if_neg (by rw [hx]; simp)]
    · rw [List.dropWhile_cons, if_pos hx, ptrimE_cons, ← ih]
      by_cases h : trimE r = []
      · rw [if_pos ⟨h, hx⟩, h]
      · rw [if_neg (fun e => h e.1), List.dropWhile_cons, if_pos hx]
theorem ptrimS_eq (l : List UInt8) : Lib.trimS l [32, 9] = trimW l := by
  unfold Lib.trimS Lib.trimLeftS Lib.trimRightS
  rw [show ([(32 : UInt8), 9].contains ·) = blkW from funext pblank]
  exact ptrim_swap l
theorem signW_cons (c : UInt8) (r : List UInt8) : signW (c :: r) = if c = 45 then (if (readL 10 r).2 then (wrap64 (-(readL 10 r).1), 0) else (0, 33))
    else if c = 43 then (if (readL 10 r).2 then (wrap64 (readL 10 r).1, 0) else (0, 33))
    else (if (readL 10 (c :: r)).2 then (wrap64 (readL 10 (c :: r)).1, 0) else (0, 33)) := rfl
theorem pre_not {c x : UInt8} (r : List UInt8) (h : ¬ c = x) : Lib.hasPrefix (c :: r) [x] = false := by
  unfold Lib.hasPrefix
  simp only [List.isPrefixOf, Bool.and_true]
  simpa using fun e => h e.symm
theorem sign_eq (l : List UInt8) : signL l = signW l := by
  cases l with
  | nil => simp [signL, signW, Lib.hasPrefix, Lib.trimPrefix, readL, goodL]
  | cons c r =>
    rw [signW_cons]
    unfold signL
    by_cases h45 : c = 45
    · subst h45
      simp [Lib.hasPrefix, Lib.trimPrefix]
    · rw [pre_not r h45, if_neg (by simp), if_neg h45]
      by_cases h43 : c = 43
      · subst h43
        simp [Lib.hasPrefix, Lib.trimPrefix]
      · rw [if_neg h43]
        have h2 : Lib.trimPrefix (c :: r) [43] = c :: r := by unfold Lib.trimPrefix; rw [pre_not r h43, if_neg (by simp)]
        rw [h2]
theorem parse_eq (l : List UInt8) : parseL l = parseW l := by
  unfold parseL parseW
  rw [ptrimS_eq, sign_eq]
theorem pparse_any (s : List UInt8) (w : World) (hs : s.length ≤ 140737488351232) :
    Calls Tryd.prog 30 #[encS s] w fun e w' => e = .returned (.tuple #[.int .i64 (parseW s).1, .int .i64 (parseW s).2]) ∧ Below w.heap.size w w' := by
  have c := parse_any ⟨s.toArray⟩ w (by simp [ByteArray.size]; omega)
  have e : (⟨s.toArray⟩ : ByteArray).data.toList = s := by simp
  rw [e, parse_eq] at c
  exact c

theorem val_dec : ∀ (l : List UInt8) (n : Nat), (∀ c ∈ l, digB c = true) → valFrom 10 n l = ((l.foldl (fun n c => 10 * n + (c.toNat - 48)) n : Nat) : Int)
  | [], _, _ => rfl
  | c :: r, n, h => by
    have h1 : 48 ≤ c.toNat ∧ c.toNat ≤ 57 := by have := h c (by simp); unfold digB at this; exact of_decide_eq_true this
    have h2 : digI (c.toNat : Int) = ((c.toNat - 48 : Nat) : Int) := by unfold digI; rw [if_pos (by omega)]; omega
    rw [valFrom, List.foldl_cons, h2, ← val_dec r (10 * n + (c.toNat - 48)) (fun c hc => h c (by simp [hc]))]
    congr 1
    omega
theorem decN_small : ∀ l : List UInt8, (∀ c ∈ l, digB c = true) → l.length ≤ 3 → decN l ≤ 999
  | [], _, _ => by simp [decN]
  | [a], h, _ => by have := h a (by simp); simp [digB] at this; simp [decN]; omega
  | [a, b], h, _ => by have h1 := h a (by simp); have h2 := h b (by simp); simp [digB] at h1 h2; simp [decN]; omega
  | [a, b, c], h, _ => by have h1 := h a (by simp); have h2 := h b (by simp); have h3 := h c (by simp); simp [digB] at h1 h2 h3; simp [decN]; omega
  | _ :: _ :: _ :: _ :: _, _, h => by simp at h
theorem dig_blank : ∀ c : UInt8, digB c = true → blkW c = false ∧ c ≠ 45 ∧ c ≠ 43 := fun c h => by
  have := Ans.all_u8 (p := fun c => digB c = true → blkW c = false ∧ c ≠ 45 ∧ c ≠ 43) (by decide +kernel) c
  exact this h
theorem trim_plain : ∀ l : List UInt8, (∀ c ∈ l, blkW c = false) → trimE l = l
  | [], _ => rfl
  | x :: r, h => by
    rw [ptrimE_cons, if_neg (by rw [h x (by simp)]; simp), trim_plain r (fun c hc => h c (by simp [hc]))]
/-- The width that digits tell; none: 0. -/
theorem parse_width (l : List UInt8) (h : ∀ c ∈ l, digB c = true) (h3 : l.length ≤ 3) : (parseW l).1 = (decN l : Int) := by
  have hle := decN_small l h h3
  have ht : trimW l = l := by
    unfold trimW
    have h1 : l.dropWhile blkW = l := by
      cases l with
      | nil => rfl
      | cons c r => rw [List.dropWhile_cons, if_neg (by rw [(dig_blank c (h c (by simp))).1]; simp)]
    have h2 := trim_plain l (fun c hc => (dig_blank c (h c hc)).1)
    first
      | rw [h1, h2]
      | (rw [h2, h1])
  unfold parseW
  rw [ht]
  cases l with
  | nil => rfl
  | cons c r =>
    have hc := dig_blank c (h c (by simp))
    have hg : goodL 10 (c :: r) = true := by
      unfold goodL
      rw [List.all_eq_true]
      intro c hc
      have h1 : 48 ≤ c.toNat ∧ c.toNat ≤ 57 := by have := h c hc; unfold digB at this; exact of_decide_eq_true this
      unfold digI
      rw [if_pos (by omega)]
      simp
      omega
    have hv : valFrom 10 0 (c :: r) = (decN (c :: r) : Int) := val_dec _ 0 h
    rw [signW_cons, if_neg hc.2.1, if_neg hc.2.2]
    simp only [readL, hg, if_true, hv]
    have hU : U ((decN (c :: r) : Nat) : Int) = ((decN (c :: r) : Nat) : Int) := U_in (by omega) (by omega)
    rw [hU]
    simp
    exact wrap64_id (by omega) (by omega)
end Go.Proofs.YtckmgcdiclkoeaaDoor
