
/- Contract of number.Parse: it returns what the plain mathematics says; of what was in memory nothing has turned. No conditions but the size of a string. -/
import Derived.Test.YtckmgcdiclkoeaaGreatDoorNumC
import Derived.Test.YtckmgcdiclkoeaaGreatDoorShelf
import Derived.Shelf.Strings.SlTrimAscii
namespace Go.Proofs.YtckmgcdiclkoeaaGreatDoor
open Go.RowKit
open Go.Lib (hid)

theorem trim_any (s : ByteArray) (w : World) (hs : s.size ≤ 9223372036854775807) :
    Calls Tryz.prog 50 #[.string s, .string ⟨#[32, 9]⟩] w fun e w' => e = .returned (.string ⟨(Lib.trimS s.data.toList [32, 9]).toArray⟩) ∧ Below w.heap.size w w' :=
  Any.strings_Trim_laid Tryz.lays160 (by kernel_rfl) s ⟨#[32, 9]⟩ w hs (by decide) (ascii_of_all (by decide))

/-- What Parse tells of a text without blanks at its ends. -/
def signL (l : List UInt8) : Int × Int :=
  if Lib.hasPrefix l [45] then (if (readL 10 (Lib.trimPrefix l [45])).2 then (wrap64 (-(readL 10 (Lib.trimPrefix l [45])).1), 0) else (0, 33))
  else (if (readL 10 (Lib.trimPrefix l [43])).2 then (wrap64 (readL 10 (Lib.trimPrefix l [43])).1, 0) else (0, 33))
def parseL (l : List UInt8) : Int × Int := signL (Lib.trimS l [32, 9])

theorem trimPrefix_len (l p : List UInt8) : (Lib.trimPrefix l p).length ≤ l.length := by
  unfold Lib.trimPrefix
  split <;> simp
theorem dropWhile_len {p : UInt8 → Bool} : ∀ l : List UInt8, (l.dropWhile p).length ≤ l.length
  | [] => Nat.le_refl _
  | c :: r => by
    rw [List.dropWhile_cons]
    split
    · have := dropWhile_len (p := p) r; rw [List.length_cons]; omega
    · exact Nat.le_refl _
theorem trimS_len (l cs : List UInt8) : (Lib.trimS l cs).length ≤ l.length := by
  unfold Lib.trimS Lib.trimLeftS Lib.trimRightS
  have h1 := dropWhile_len (p := (cs.contains ·)) (l.reverse.dropWhile (cs.contains ·)).reverse
  have h2 := dropWhile_len (p := (cs.contains ·)) l.reverse
  rw [List.length_reverse] at h1 h2
  omega
theorem of_toArray (l : List UInt8) : (⟨l.toArray⟩ : ByteArray).data.toList = l := by simp

set_option maxHeartbeats 1000000 in
theorem parse_any (s : ByteArray) (w : World) (hs : s.size ≤ 9223372036854775807) :
    Calls Tryz.prog 32 #[.string s] w fun e w' => e = .returned (.tuple #[.int .i64 (parseL s.data.toList).1, .int .i64 (parseL s.data.toList).2]) ∧ Below w.heap.size w w' := by
  have cT := fun W => trim_any s W hs
  have hl := trimS_len s.data.toList [32, 9]
  have HE : Hid (parseL s.data.toList = signL (Lib.trimS s.data.toList [32, 9])) := hid rfl
  rw [len_toList] at hl
  obtain ⟨t, ht⟩ : ∃ t, Lib.trimS s.data.toList [32, 9] = t := ⟨_, rfl⟩
  rw [ht] at cT hl HE
  clear ht
  have cM := fun W => Tryz.strings_CutPrefix ⟨t.toArray⟩ ⟨#[45]⟩ W
  have cP := fun W => Tryz.strings_TrimPrefix ⟨t.toArray⟩ ⟨#[43]⟩ W
  rw [of_toArray, show (⟨#[45]⟩ : ByteArray).data.toList = [45] from rfl] at cM
  rw [of_toArray, show (⟨#[43]⟩ : ByteArray).data.toList = [43] from rfl] at cP
  have hm := trimPrefix_len t [45]
  have hp := trimPrefix_len t [43]
  unfold signL at HE
  obtain ⟨m, hmm⟩ : ∃ m, Lib.trimPrefix t [45] = m := ⟨_, rfl⟩
  obtain ⟨p, hpp⟩ : ∃ p, Lib.trimPrefix t [43] = p := ⟨_, rfl⟩
  obtain ⟨b, hb⟩ : ∃ b, Lib.hasPrefix t [45] = b := ⟨_, rfl⟩
  rw [hmm] at cM hm HE
  rw [hpp] at cP hp HE
  rw [hb] at cM HE
  clear hmm hpp hb
  cases b
  · have cR := fun W => read_any 10 ⟨p.toArray⟩ W (by show p.toArray.size ≤ maxLen; unfold maxLen; simp; omega)
    rw [of_toArray] at cR
    rw [if_neg (by decide)] at HE
    obtain ⟨n, hn⟩ : ∃ n, (readL 10 p).1 = n := ⟨_, rfl⟩
    obtain ⟨g, hg⟩ : ∃ g, (readL 10 p).2 = g := ⟨_, rfl⟩
    rw [hn, hg] at cR HE
    clear hn hg hm hp hl
    cases g
    · rw [if_neg (by decide)] at HE
      go_enter Tryz.func32, Tryz.ntmps32
      go_wp2_with (first | (go_at_call 50; (with_reducible refine (cT _).mono ?_); rintro e w1 ⟨rfl, hw1⟩) | (go_at_call 51; (with_reducible refine (cM _).mono ?_); rintro e w2 ⟨rfl, rfl⟩) | (go_at_call 36; (with_reducible refine (cP _).mono ?_); rintro e w2 ⟨rfl, rfl⟩) | (go_at_call 52; (with_reducible refine (cR _).mono ?_); rintro e w2 ⟨rfl, rfl⟩))
      go_ret2
      exact ⟨by rw [HE.out]; rfl, hw1⟩
    · rw [if_pos rfl] at HE
      go_enter Tryz.func32, Tryz.ntmps32
      go_wp2_with (first | (go_at_call 50; (with_reducible refine (cT _).mono ?_); rintro e w1 ⟨rfl, hw1⟩) | (go_at_call 51; (with_reducible refine (cM _).mono ?_); rintro e w2 ⟨rfl, rfl⟩) | (go_at_call 36; (with_reducible refine (cP _).mono ?_); rintro e w2 ⟨rfl, rfl⟩) | (go_at_call 52; (with_reducible refine (cR _).mono ?_); rintro e w2 ⟨rfl, rfl⟩))
      go_ret2
      exact ⟨by rw [HE.out]; rfl, hw1⟩
  · have cR := fun W => read_any 10 ⟨m.toArray⟩ W (by show m.toArray.size ≤ maxLen; unfold maxLen; simp; omega)
    rw [of_toArray] at cR
    rw [if_pos rfl] at HE
    obtain ⟨n, hn⟩ : ∃ n, (readL 10 m).1 = n := ⟨_, rfl⟩
    obtain ⟨g, hg⟩ : ∃ g, (readL 10 m).2 = g := ⟨_, rfl⟩
    rw [hn, hg] at cR HE
    clear hn hg hm hp hl
    cases g
    · rw [if_neg (by decide)] at HE
      go_enter Tryz.func32, Tryz.ntmps32
      go_wp2_with (first | (go_at_call 50; (with_reducible refine (cT _).mono ?_); rintro e w1 ⟨rfl, hw1⟩) | (go_at_call 51; (with_reducible refine (cM _).mono ?_); rintro e w2 ⟨rfl, rfl⟩) | (go_at_call 52; (with_reducible refine (cR _).mono ?_); rintro e w2 ⟨rfl, rfl⟩))
      go_ret2
      exact ⟨by rw [HE.out]; rfl, hw1⟩
    · rw [if_pos rfl] at HE
      have HW : Hid (wrap64 (IntKind.u64.wrap (-n)) = wrap64 (-n)) := hid (by rw [U_wrap, wrap64_U])
      go_enter Tryz.func32, Tryz.ntmps32
      go_wp2_with (first | (go_at_call 50; (with_reducible refine (cT _).mono ?_); rintro e w1 ⟨rfl, hw1⟩) | (go_at_call 51; (with_reducible refine (cM _).mono ?_); rintro e w2 ⟨rfl, rfl⟩) | (go_at_call 52; (with_reducible refine (cR _).mono ?_); rintro e w2 ⟨rfl, rfl⟩))
      go_ret2
      exact ⟨by rw [HE.out, ← HW.out]; rfl, hw1⟩
end Go.Proofs.YtckmgcdiclkoeaaGreatDoor
