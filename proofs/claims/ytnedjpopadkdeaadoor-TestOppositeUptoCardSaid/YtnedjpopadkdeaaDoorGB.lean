/- Contract of number.Parse: it returns what the plain mathematics says; of what was in memory nothing has turned. No conditions but the size of a string. Plain mathematics of what Parse tells: of a number's digits the number; blanks at the ends change nothing; of digits with a sign ahead of them the number or its opposite. number.Parse as the mathematics of printf says it. No conditions. -/
import Derived.Test.YtnedjpopadkdeaaDoorNumC
import Derived.Test.YtnedjpopadkdeaaDoorShelf
import Derived.Shelf.Strings.SlTrimAscii
import Derived.Test.YtnedjpopadkdeaaDoorNumF
import Derived.Test.YtnedjpopadkdeaaDoorPrM
namespace Go.Proofs.YtnedjpopadkdeaaDoor
open Go.RowKit
open Go.Lib (hid)

theorem trim_any (s : ByteArray) (w : World) (hs : s.size ≤ 9223372036854775807) :
    Calls Tryd.prog 39 #[.string s, .string ⟨#[32, 9]⟩] w fun e w' => e = .returned (.string ⟨(Lib.trimS s.data.toList [32, 9]).toArray⟩) ∧ Below w.heap.size w w' :=
  Any.strings_Trim_laid Tryd.lays160 (by kernel_rfl) s ⟨#[32, 9]⟩ w hs (by decide) (ascii_of_all (by decide))

/-- What Parse tells of a text without blanks at its ends. -/
def signL (l : List UInt8) : Int × Int :=
  if Lib.hasPrefix l [45] then (if (readL 10 (Lib.trimPrefix l [45])).2 then (wrap64 (-(readL 10 (Lib.trimPrefix l [45])).1), 0) else (0, 33))
  else (if (readL 10 (Lib.trimPrefix l [43])).2 then (wrap64 (readL 10 (Lib.trimPrefix l [43])).1, 0) else (0, 33))
def parseL (l : List UInt8) : Int × Int := signL (Lib.trimS l [32, 9])

theorem trimPrefix_len (l p : List UInt8) : (Lib.trimPrefix l p).length ≤ l.length := by
  unfold Lib.trimPrefix
  split <;> simp
theorem dropWhile_len {p : UInt8 → Bool} : ∀ l : List UInt8, (l.dropWhile p).length ≤ l.length
  | [] => Nat.le_refl _
  | c :: r => by
    rw [List.dropWhile_cons]
    split
    · have := dropWhile_len (p := p) r; rw [List.length_cons]; omega
    · exact Nat.le_refl _
theorem trimS_len (l cs : List UInt8) : (Lib.trimS l cs).length ≤ l.length := by
  unfold Lib.trimS Lib.trimLeftS Lib.trimRightS
  have h1 := dropWhile_len (p := (cs.contains ·)) (l.reverse.dropWhile (cs.contains ·)).reverse
  have h2 := dropWhile_len (p := (cs.contains ·)) l.reverse
  rw [List.length_reverse] at h1 h2
  omega
theorem of_toArray (l : List UInt8) : (⟨l.toArray⟩ : ByteArray).data.toList = l := by simp

set_option maxHeartbeats 1000000 in
theorem parse_any (s : ByteArray) (w : World) (hs : s.size ≤ 9223372036854775807) :
    Calls Tryd.prog 29 #[.string s] w fun e w' => e = .returned (.tuple #[.int .i64 (parseL s.data.toList).1, .int .i64 (parseL s.data.toList).2]) ∧ Below w.heap.size w w' := by
  have cT := fun W => trim_any s W hs
  have hl := trimS_len s.data.toList [32, 9]
  have HE : Hid (parseL s.data.toList = signL (Lib.trimS s.data.toList [32, 9])) := hid rfl
  rw [len_toList] at hl
  obtain ⟨t, ht⟩ : ∃ t, Lib.trimS s.data.toList [32, 9] = t := ⟨_, rfl⟩
  rw [ht] at cT hl HE
  clear ht
  have cM := fun W => Tryd.strings_CutPrefix ⟨t.toArray⟩ ⟨#[45]⟩ W
  have cP := fun W => Tryd.strings_TrimPrefix ⟨t.toArray⟩ ⟨#[43]⟩ W
  rw [of_toArray, show (⟨#[45]⟩ : ByteArray).data.toList = [45] from rfl] at cM
  rw [of_toArray, show (⟨#[43]⟩ : ByteArray).data.toList = [43] from rfl] at cP
  have hm := trimPrefix_len t [45]
  have hp := trimPrefix_len t [43]
  unfold signL at HE
  obtain ⟨m, hmm⟩ : ∃ m, Lib.trimPrefix t [45] = m := ⟨_, rfl⟩
  obtain ⟨p, hpp⟩ : ∃ p, Lib.trimPrefix t [43] = p := ⟨_, rfl⟩
  obtain ⟨b, hb⟩ : ∃ b, Lib.hasPrefix t [45] = b := ⟨_, rfl⟩
  rw [hmm] at cM hm HE
  rw [hpp] at cP hp HE
  rw [hb] at cM HE
  clear hmm hpp hb
  cases b
  · have cR := fun W => read_any 10 ⟨p.toArray⟩ W (by show p.toArray.size ≤ maxLen; unfold maxLen; simp; omega)
    rw [of_toArray] at cR
    rw [if_neg (by decide)] at HE
    obtain ⟨n, hn⟩ : ∃ n, (readL 10 p).1 = n := ⟨_, rfl⟩
    obtain ⟨g, hg⟩ : ∃ g, (readL 10 p).2 = g := ⟨_, rfl⟩
    rw [hn, hg] at cR HE
    clear hn hg hm hp hl
    cases g
    · rw [if_neg (by decide)] at HE
      go_enter Tryd.func29, Tryd.ntmps29
      go_wp2_with (first | (go_at_call 39; (with_reducible refine (cT _).mono ?_); rintro e w1 ⟨rfl, hw1⟩) | (go_at_call 40; (with_reducible refine (cM _).mono ?_); rintro e w2 ⟨rfl, rfl⟩) | (go_at_call 41; (with_reducible refine (cP _).mono ?_); rintro e w2 ⟨rfl, rfl⟩) | (go_at_call 42; (with_reducible refine (cR _).mono ?_); rintro e w2 ⟨rfl, rfl⟩))
      go_ret2
      exact ⟨by rw [HE.out]; rfl, hw1⟩
    · rw [if_pos rfl] at HE
      go_enter Tryd.func29, Tryd.ntmps29
      go_wp2_with (first | (go_at_call 39; (with_reducible refine (cT _).mono ?_); rintro e w1 ⟨rfl, hw1⟩) | (go_at_call 40; (with_reducible refine (cM _).mono ?_); rintro e w2 ⟨rfl, rfl⟩) | (go_at_call 41; (with_reducible refine (cP _).mono ?_); rintro e w2 ⟨rfl, rfl⟩) | (go_at_call 42; (with_reducible refine (cR _).mono ?_); rintro e w2 ⟨rfl, rfl⟩))
      go_ret2
      exact ⟨by rw [HE.out]; rfl, hw1⟩
  · have cR := fun W => read_any 10 ⟨m.toArray⟩ W (by show m.toArray.size ≤ maxLen; unfold maxLen; simp; omega)
    rw [of_toArray] at cR
    rw [if_pos rfl] at HE
    obtain ⟨n, hn⟩ : ∃ n, (readL 10 m).1 = n := ⟨_, rfl⟩
    obtain ⟨g, hg⟩ : ∃ g, (readL 10 m).2 = g := ⟨_, rfl⟩
    rw [hn, hg] at cR HE
    clear hn hg hm hp hl
    cases g
    · rw [if_neg (by decide)] at HE
      go_enter Tryd.func29, Tryd.ntmps29
      go_wp2_with (first | (go_at_call 39; (with_reducible refine (cT _).mono ?_); rintro e w1 ⟨rfl, hw1⟩) | (go_at_call 40; (with_reducible refine (cM _).mono ?_); rintro e w2 ⟨rfl, rfl⟩) | (go_at_call 42; (with_reducible refine (cR _).mono ?_); rintro e w2 ⟨rfl, rfl⟩))
      go_ret2
      exact ⟨by rw [HE.out]; rfl, hw1⟩
    · rw [if_pos rfl] at HE
      have HW : Hid (wrap64 (IntKind.u64.wrap (-n)) = wrap64 (-n)) := hid (by rw [U_wrap, wrap64_U])
      go_enter Tryd.func29, Tryd.ntmps29
      go_wp2_with (first | (go_at_call 39; (with_reducible refine (cT _).mono ?_); rintro e w1 ⟨rfl, hw1⟩) | (go_at_call 40; (with_reducible refine (cM _).mono ?_); rintro e w2 ⟨rfl, rfl⟩) | (go_at_call 42; (with_reducible refine (cR _).mono ?_); rintro e w2 ⟨rfl, rfl⟩))
      go_ret2
      exact ⟨by rw [HE.out, ← HW.out]; rfl, hw1⟩
end Go.Proofs.YtnedjpopadkdeaaDoor
namespace Go.Proofs.YtnedjpopadkdeaaDoor
open Go.RowKit
open Go.Lib (hid)

/-- Without blanks and tabs within, nothing is trimmed. -/
def blankB (c : UInt8) : Bool := [32, 9].contains c
theorem dropWhile_none {p : UInt8 → Bool} : ∀ {l : List UInt8}, (∀ c ∈ l, p c = false) → l.dropWhile p = l
  | [], _ => rfl
  | c :: r, h => by rw [List.dropWhile_cons, if_neg (by rw [h c (by simp)]; decide)]
theorem trim_none {l : List UInt8} (h : ∀ c ∈ l, blankB c = false) : Lib.trimS l [32, 9] = l := by
  have h1 : l.reverse.dropWhile blankB = l.reverse := dropWhile_none fun c hc => h c (by simpa using hc)
  unfold Lib.trimS Lib.trimLeftS Lib.trimRightS
  rw [show (fun c => [32, 9].contains c : UInt8 → Bool) = blankB from rfl, h1, List.reverse_reverse]
  exact dropWhile_none h
theorem blank_not {c : UInt8} (h1 : c ≠ 32) (h2 : c ≠ 9) : blankB c = false := by
  unfold blankB; simp [h1, h2]
theorem digit_blank {l : List UInt8} (h : digitL l = true) : ∀ c ∈ l, blankB c = false := fun c hc => by
  have h1 := List.all_eq_true.1 h c hc
  have h2 := dig_of h1
  exact blank_not h2.2.1 h2.2.2.1

theorem pre_cons (c : UInt8) (l : List UInt8) : Lib.hasPrefix (c :: l) [c] = true := by simp [Lib.hasPrefix]
theorem pre_other {c d : UInt8} (h : c ≠ d) (l : List UInt8) : Lib.hasPrefix (c :: l) [d] = false := by
  show (d == c && List.isPrefixOf [] l) = false
  rw [show (d == c) = false by simpa using Ne.symm h]; rfl
theorem pre_digit {l : List UInt8} (h : digitL l = true) (d : UInt8) (hd : d = 45 ∨ d = 43) : Lib.hasPrefix l [d] = false := by
  cases l with
  | nil => rfl
  | cons c r =>
    have h1 := List.all_eq_true.1 h c (by simp)
    have h2 := dig_of h1
    rcases hd with rfl | rfl
    · exact pre_other h2.2.2.2.1 r
    · exact pre_other h2.2.2.2.2 r
theorem trimPre_cons (c : UInt8) (l : List UInt8) : Lib.trimPrefix (c :: l) [c] = l := by unfold Lib.trimPrefix; rw [if_pos (pre_cons c l)]; rfl
theorem trimPre_no {l p : List UInt8} (h : Lib.hasPrefix l p = false) : Lib.trimPrefix l p = l := by unfold Lib.trimPrefix; rw [h]; rfl

theorem parse_minus {l : List UInt8} {n : Int} (h : digitL l = true) (hr : readL 10 l = (n, true)) : parseL (45 :: l) = (wrap64 (-n), 0) := by
  have ht : Lib.trimS (45 :: l) [32, 9] = 45 :: l := trim_none fun c hc => by
    rcases List.mem_cons.1 hc with rfl | hc
    · decide
    · exact digit_blank h c hc
  unfold parseL signL
  rw [ht, pre_cons, trimPre_cons, hr]; rfl
theorem parse_plus {l : List UInt8} {n : Int} (h : digitL l = true) (hr : readL 10 l = (n, true)) : parseL (43 :: l) = (wrap64 n, 0) := by
  have ht : Lib.trimS (43 :: l) [32, 9] = 43 :: l := trim_none fun c hc => by
    rcases List.mem_cons.1 hc with rfl | hc
    · decide
    · exact digit_blank h c hc
  unfold parseL signL
  rw [ht, pre_other (by decide), trimPre_cons, hr]; rfl
theorem parse_digits {l : List UInt8} {n : Int} (h : digitL l = true) (hr : readL 10 l = (n, true)) : parseL l = (wrap64 n, 0) := by
  unfold parseL signL
  rw [trim_none (digit_blank h), pre_digit h 45 (.inl rfl), trimPre_no (pre_digit h 43 (.inr rfl)), hr]; rfl

theorem parse_print {n : Int} (h0 : -9223372036854775808 ≤ n) (h1 : n ≤ 9223372036854775807) : parseL (printL n) = (n, 0) := by
  unfold printL
  by_cases hn : n < 0
  · rw [if_pos hn, parse_minus (decD_digit _) (read_dec (by omega)), wrap64_id (by omega) (by omega)]
    congr 1; omega
  · rw [if_neg hn, parse_digits (decD_digit _) (read_dec (by omega)), wrap64_id (by omega) (by omega)]
    congr 1; omega
theorem printL_len {n : Int} (h0 : -9223372036854775808 ≤ n) (h1 : n ≤ 9223372036854775807) : (printL n).length ≤ 20 := by
  have h : ∀ (k u : Nat), u < 10 ^ (k + 1) → (decD u).length ≤ k + 1 := fun k => by
    induction k with
    | zero => intro u hu; rw [decD_one (by simpa using hu)]; simp
    | succ k ih =>
      intro u hu
      by_cases h : u < 10
      · rw [decD_one h]; simp
      · rw [decD_more (by omega), List.length_append, List.length_singleton]
        have := ih (u / 10) (by rw [Nat.pow_succ] at hu; omega)
        omega
  have := h 18 n.natAbs (by omega)
  unfold printL
  split
  · rw [List.length_cons]; omega
  · omega

theorem dw_rep {p : UInt8 → Bool} (hp : p 32 = true) (Y : List UInt8) : ∀ k : Nat, (List.replicate k 32 ++ Y).dropWhile p = Y.dropWhile p
  | 0 => rfl
  | k + 1 => by rw [List.replicate_succ, List.cons_append, List.dropWhile_cons, if_pos hp, dw_rep hp Y k]
theorem trim_rep (l : List UInt8) (k : Nat) : Lib.trimS (List.replicate k 32 ++ l ++ List.replicate k 32) [32, 9] = Lib.trimS l [32, 9] := by
  unfold Lib.trimS Lib.trimLeftS Lib.trimRightS
  rw [show (fun c => [32, 9].contains c : UInt8 → Bool) = blankB from rfl]
  have hp : blankB 32 = true := by decide
  rw [List.reverse_append, List.reverse_append, List.reverse_replicate, dw_rep hp, List.dropWhile_append]
  by_cases he : (l.reverse.dropWhile blankB).isEmpty = true
  · rw [if_pos he, List.isEmpty_iff.1 he, show (List.replicate k 32).dropWhile blankB = [] by have := dw_rep hp [] k; rwa [List.append_nil] at this]
  · rw [if_neg he, List.reverse_append, List.reverse_replicate, dw_rep hp]
theorem parse_rep (l : List UInt8) (k : Nat) : parseL (List.replicate k 32 ++ l ++ List.replicate k 32) = parseL l := by
  unfold parseL; rw [trim_rep]

/-- A literal that does not begin with a 0 is digits. -/
theorem lit_digits {c : UInt8} {r : List UInt8} (h : (litL (c :: r)).2 = 0) (h0 : c ≠ 48) : ∃ n : Int, digitL (c :: r) = true ∧ readL 10 (c :: r) = (n, true) ∧ litL (c :: r) = (wrap64 n, 0) := by
  have hs : speltL (c :: r) = (c :: r, 10) := by
    cases r with
    | nil => rfl
    | cons d r => rw [speltL, if_neg h0]
  unfold litL at h ⊢
  rw [hs] at h ⊢
  cases hg : (readL 10 (c :: r)).2 with
  | false => exact absurd (show (33 : Int) = 0 by have e := h; rw [show (readL (c :: r, (10 : Int)).2 (c :: r, (10 : Int)).1).2 = false from hg] at e; exact e) (by decide)
  | true =>
    refine ⟨(readL 10 (c :: r)).1, ?_, ?_, ?_⟩
    · apply good_digit
      unfold readL at hg
      split at hg
      · assumption
      · simp at hg
    · rw [← hg]
    · rfl
theorem lit_nil : litL [] = (0, 33) := by decide
theorem litL_two (l : List UInt8) : (litL l).2 = 0 ∨ litL l = (0, 33) := by
  unfold litL; split
  · exact .inl rfl
  · exact .inr rfl
end Go.Proofs.YtnedjpopadkdeaaDoor
namespace Go.Proofs.YtnedjpopadkdeaaDoor
open Go.RowKit
open Go.Lib (hid)

theorem pall_u8 {p : UInt8 → Prop} (h : ∀ n : Fin 256, p (UInt8.ofFin n)) : ∀ c, p c := fun c => h c.toFin
theorem pblank : ∀ x : UInt8, ([(32 : UInt8), 9].contains x) = blkW x := pall_u8 (by decide +kernel)
theorem ptrimE_cons (x : UInt8) (r : List UInt8) : trimE (x :: r) = if trimE r = [] ∧ blkW x = true then [] else x :: trimE r := by
  unfold trimE
  rw [List.reverse_cons, List.dropWhile_append]
  by_cases h : r.reverse.dropWhile blkW = []
  · cases hx : blkW x <;> simp [h, hx]
  · simp [h]
theorem ptrimE_head {u : List UInt8} {x : UInt8} (hx : blkW x = false) : ∃ v, trimE (x :: u) = x :: v := by
  rw [ptrimE_cons, if_neg (by rw [hx]; simp)]
  exact ⟨_, rfl⟩
theorem ptrim_swap : ∀ l : List UInt8, (trimE l).dropWhile blkW = trimE (l.dropWhile blkW)
  | [] => rfl
  | x :: r => by
    have ih := ptrim_swap r
    cases hx : blkW x
    · obtain ⟨v, hv⟩ := ptrimE_head (u := r) hx
      rw [List.dropWhile_cons, if_neg (by rw [hx]; simp), hv, List.dropWhile_cons, if_neg (by rw [hx]; simp)]
    · rw [List.dropWhile_cons, if_pos hx, ptrimE_cons, ← ih]
      by_cases h : trimE r = []
      · rw [if_pos ⟨h, hx⟩, h]
      · rw [if_neg (fun e => h e.1), List.dropWhile_cons, if_pos hx]
theorem ptrimS_eq (l : List UInt8) : Lib.trimS l [32, 9] = trimW l := by
  unfold Lib.trimS Lib.trimLeftS Lib.trimRightS
  rw [show ([(32 : UInt8), 9].contains ·) = blkW from funext pblank]
  exact ptrim_swap l
theorem signW_cons (c : UInt8) (r : List UInt8) : signW (c :: r) = if c = 45 then (if (readL 10 r).2 then (wrap64 (-(readL 10 r).1), 0) else (0, 33))
    else if c = 43 then (if (readL 10 r).2 then (wrap64 (readL 10 r).1, 0) else (0, 33))
    else (if (readL 10 (c :: r)).2 then (wrap64 (readL 10 (c :: r)).1, 0) else (0, 33)) := rfl
theorem pre_not {c x : UInt8} (r : List UInt8) (h : ¬ c = x) : Lib.hasPrefix (c :: r) [x] = false := by
  unfold Lib.hasPrefix
  simp only [List.isPrefixOf, Bool.and_true]
  simpa using fun e => h e.symm
theorem sign_eq (l : List UInt8) : signL l = signW l := by
  cases l with
  | nil => simp [signL, signW, Lib.hasPrefix, Lib.trimPrefix, readL, goodL]
  | cons c r =>
    rw [signW_cons]
    unfold signL
    by_cases h45 : c = 45
    · subst h45
      simp [Lib.hasPrefix, Lib.trimPrefix]
    · rw [pre_not r h45, if_neg (by simp), if_neg h45]
      by_cases h43 : c = 43
      · subst h43
        simp [Lib.hasPrefix, Lib.trimPrefix]
      · rw [if_neg h43]
        have h2 : Lib.trimPrefix (c :: r) [43] = c :: r := by unfold Lib.trimPrefix; rw [pre_not r h43, if_neg (by simp)]
        rw [h2]
theorem parse_eq (l : List UInt8) : parseL l = parseW l := by
  unfold parseL parseW
  rw [ptrimS_eq, sign_eq]
theorem pparse_any (s : List UInt8) (w : World) (hs : s.length ≤ 140737488351232) :
    Calls Tryd.prog 29 #[encS s] w fun e w' => e = .returned (.tuple #[.int .i64 (parseW s).1, .int .i64 (parseW s).2]) ∧ Below w.heap.size w w' := by
  have c := parse_any ⟨s.toArray⟩ w (by simp [ByteArray.size]; omega)
  have e : (⟨s.toArray⟩ : ByteArray).data.toList = s := by simp
  rw [e, parse_eq] at c
  exact c

end Go.Proofs.YtnedjpopadkdeaaDoor
