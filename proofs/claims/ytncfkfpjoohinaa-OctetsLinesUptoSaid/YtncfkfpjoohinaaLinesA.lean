/- Contracts of strings.Cut at a newline, of octets.eachLine and of octets.Lines. Conditions: the text is of at most 2^40 octets. -/
import Derived.Test.YtncfkfpjoohinaaTextsB
import Derived.Deep.AppendLies
import Derived.Deep.RegionLaw
import Derived.Lib.IndexLaws
namespace Go.Proofs.Ytncfkfpjoohinaa
open Go.RowKit
open Go.Lib (hid)

/-- A text's first line, and what is behind its newline. -/
def lineOf (l : List UInt8) : List UInt8 := l.takeWhile (· != 10)
def restOf (l : List UInt8) : List UInt8 := (l.dropWhile (· != 10)).drop 1

theorem index_ten : ∀ (l : List UInt8), (Lib.indexByte l 10 = -1 ∧ lineOf l = l ∧ restOf l = []) ∨ (∃ i : Nat, Lib.indexByte l 10 = i ∧ i < l.length ∧ lineOf l = l.take i ∧ restOf l = l.drop (i + 1))
  | [] => .inl ⟨rfl, rfl, rfl⟩
  | c :: r => by
    by_cases hc : c = 10
    · subst hc
      exact .inr ⟨0, by simp [Lib.indexByte], by simp, by simp [lineOf], by simp [restOf]⟩
    · have hb : (c == 10) = false := by simpa using hc
      have hn : (c != 10) = true := by simpa using hc
      rcases index_ten r with ⟨h1, h2, h3⟩ | ⟨i, h1, h2, h3, h4⟩
      · refine .inl ⟨by rw [Lib.indexByte, hb, h1]; rfl, ?_, ?_⟩
        · unfold lineOf at h2 ⊢; rw [List.takeWhile_cons_of_pos (p := (· != 10)) hn, h2]
        · unfold restOf at h3 ⊢; rw [List.dropWhile_cons_of_pos (p := (· != 10)) hn, h3]
      · refine .inr ⟨i + 1, ?_, by simp; omega, ?_, ?_⟩
        · rw [Lib.indexByte, hb, h1]
          have : ((i : Int) == -1) = false := by simp
          simp [this]
        · unfold lineOf at h3 ⊢; rw [List.takeWhile_cons_of_pos (p := (· != 10)) hn, h3]; rfl
        · unfold restOf at h4 ⊢; rw [List.dropWhile_cons_of_pos (p := (· != 10)) hn, h4]; rfl

theorem restOf_lt (c : UInt8) (r : List UInt8) : (restOf (c :: r)).length < (c :: r).length := by
  rcases index_ten (c :: r) with ⟨_, _, h⟩ | ⟨i, _, h1, _, h⟩
  · rw [h]; simp
  · rw [h, List.length_drop]; omega
theorem lineOf_rest (l : List UInt8) : (lineOf l).length + (restOf l).length ≤ l.length := by
  rcases index_ten l with ⟨_, h0, h⟩ | ⟨i, _, h1, h0, h⟩
  · rw [h, h0]; simp
  · rw [h0, h, List.length_drop, List.length_take]; omega

/-- A text's lines. -/
def linesL : List UInt8 → List (List UInt8)
  | [] => []
  | c :: r => lineOf (c :: r) :: linesL (restOf (c :: r))
termination_by l => l.length
decreasing_by exact restOf_lt c r

theorem mk_take (s : ByteArray) (i : Nat) : (⟨(s.data.toList.take i).toArray⟩ : ByteArray) = s.extract 0 i := by
  apply ByteArray.ext
  apply Array.toList_inj.1
  rw [ByteArray.data_extract, Array.toList_extract, List.extract_eq_take_drop]
  simp
theorem mk_drop (s : ByteArray) (i : Nat) : (⟨(s.data.toList.drop i).toArray⟩ : ByteArray) = s.extract i s.size := by
  apply ByteArray.ext
  apply Array.toList_inj.1
  rw [ByteArray.data_extract, Array.toList_extract, List.extract_eq_take_drop, List.take_of_length_le (by rw [List.length_drop, len_toList]; omega)]

set_option maxHeartbeats 1000000 in
theorem cutLite_ten (s : ByteArray) (w : World) (hs : s.size ≤ 1099511627776) :
    Calls Try.prog 45 #[.string s, .string ⟨#[10]⟩] w fun e w' => ∃ b n, e = .returned (.tuple #[.string ⟨(lineOf s.data.toList).toArray⟩, .string ⟨(restOf s.data.toList).toArray⟩, .bool b]) ∧ w' = w.drewN n := by
  have cI := fun W => Try.stringslite_Index_one s 10 W
  rcases index_ten s.data.toList with ⟨h1, h2, h3⟩ | ⟨i, h1, h2, h3, h4⟩
  · rw [h1] at cI
    have e1 : (⟨(lineOf s.data.toList).toArray⟩ : ByteArray) = s := by rw [h2]
    have e2 : (⟨(restOf s.data.toList).toArray⟩ : ByteArray) = ⟨#[]⟩ := by rw [h3]
    rw [e1, e2]
    clear h1 h2 h3 e1 e2
    go_enter Try.func45, Try.ntmps45
    go_wp2_with (go_at_call 57; (with_reducible refine (cI _).mono ?_); rintro e w' ⟨rfl, rfl⟩)
    go_ret3
    exact ⟨_, 0, rfl, rfl⟩
  · rw [h1] at cI
    rw [len_toList] at h2
    have e1 : (⟨(lineOf s.data.toList).toArray⟩ : ByteArray) = s.extract 0 i := by rw [h3]; exact mk_take s i
    have e2 : (⟨(restOf s.data.toList).toArray⟩ : ByteArray) = s.extract (i + 1) s.size := by rw [h4]; exact mk_drop s (i + 1)
    rw [e1, e2]
    clear h1 h3 h4 e1 e2
    go_enter Try.func45, Try.ntmps45
    go_wp2_with (go_at_call 57; (with_reducible refine (cI _).mono ?_); rintro e w' ⟨rfl, rfl⟩)
    go_quiet (fail)
    go_wp2_with fail
    go_ret3
    exact ⟨_, _, rfl, rfl⟩

set_option maxHeartbeats 1000000 in
theorem cut_ten (s : ByteArray) (w : World) (hs : s.size ≤ 1099511627776) :
    Calls Try.prog 40 #[.string s, .string ⟨#[10]⟩] w fun e w' => ∃ b n, e = .returned (.tuple #[.string ⟨(lineOf s.data.toList).toArray⟩, .string ⟨(restOf s.data.toList).toArray⟩, .bool b]) ∧ w' = w.drewN n := by
  go_enter Try.func40, Try.ntmps40
  go_wp2_with fail
  refine (cutLite_ten s _ hs).mono ?_
  rintro e w' ⟨b, n, rfl, rfl⟩
  go_wp2_with fail
  go_ret3
  exact ⟨b, n, rfl, rfl⟩

theorem linesL_step (l : List UInt8) (h : l ≠ []) : linesL l = lineOf l :: linesL (restOf l) := by
  cases l with
  | nil => exact absurd rfl h
  | cons c r => rw [linesL]

def sizeOf' (v : Value) : Nat := match v with | .string b => b.size | _ => 0

set_option maxHeartbeats 2000000 in
/-- eachLine: whatever I says of the lines done and of the world. -/
theorem eachLine_any (g : Nat) (lb : Array Value) (eg : ∀ args w, (callFunc g args).run Try.prog w = .ok (.enter g args) w) (I : List (List UInt8) → World → Prop) (s : ByteArray) (w : World) (hs : s.size ≤ 1099511627776)
    (hd : ∀ ls W n, I ls W → I ls (W.drewN n)) (h0 : I [] w)
    (hp : ∀ (ls : List (List UInt8)) (x : List UInt8) (W : World), ls.length < s.size → x.length ≤ s.size → I ls W → Calls Try.prog g (#[encStr x] ++ lb) W fun e W' => e = .returned (.tuple #[]) ∧ I (ls ++ [x]) W') :
    Calls Try.prog 30 #[.string s, .func (.func g) #[] lb] w fun e w' => e = .returned (.tuple #[]) ∧ I (linesL s.data.toList) w' := by
  obtain ⟨M, hM⟩ : ∃ M, s.size = M := ⟨_, rfl⟩
  obtain ⟨L, hL⟩ : ∃ L, linesL s.data.toList = L := ⟨_, rfl⟩
  rw [hL]
  rw [hM] at hp
  have HM := hid hM
  have HL := hid hL
  clear hL
  go_enter Try.func30, Try.ntmps30
  go_wp2_with fail
  go_loopw [0] (fun v wr => ∃ (t : ByteArray) (ls : List (List UInt8)), v = .string t ∧ Hid (L = ls ++ linesL t.data.toList) ∧ ls.length + t.size ≤ M ∧ I ls wr) (fun v _ => sizeOf' v)
  case atStart => exact ⟨s, [], rfl, hid HL.out.symm, by have := HM.out; simp; omega, h0⟩
  case round =>
    obtain ⟨t, ls, rfl, HT, hsz, hI⟩ := hrel
    clear h0
    by_cases h0 : t.data.toList = []
    · obtain rfl := toList_empty t h0
      have HF : Hid (L = ls) := hid (by rw [HT.out]; show ls ++ linesL [] = ls; rw [linesL, List.append_nil])
      clear hp hd h0
      go_wp2_with fail
      go_end0
      exact ⟨rfl, by rw [HF.out]; exact hI⟩
    · have hts : 0 < t.size := by
        rw [← len_toList]; exact List.length_pos_iff.2 h0
      have hlr := lineOf_rest t.data.toList
      rw [len_toList] at hlr
      have HN : Hid (L = ls ++ [lineOf t.data.toList] ++ linesL (restOf t.data.toList)) := hid (by rw [HT.out, linesL_step _ h0]; simp)
      have hlt2 : (restOf t.data.toList).length < t.size := by
        cases e : t.data.toList with
        | nil => exact absurd e h0
        | cons c r => have h := restOf_lt c r; rw [← e, len_toList] at h; rw [← e]; exact h
      have g1 : ¬ t.toList = [] := by rw [toList_data]; exact h0
      have g2 : t.toList.isEmpty = false := by rw [toList_data]; simpa using h0
      clear HT h0
      go_wp2_with fail
      refine (cut_ten t _ (by have := HM.out; omega)).mono ?_
      rintro e w' ⟨b, n, rfl, rfl⟩
      have cF := hp ls (lineOf t.data.toList) _ (by omega) (by omega) (hd _ _ n hI)
      clear hp hI
      go_wp2_with (go_at_fn g; refine cF.mono ?_; rintro e W' ⟨rfl, hI'⟩)
      go_roundw
      case rel => exact ⟨_, _, rfl, HN, by rw [List.length_append]; show _ + (restOf t.data.toList).length ≤ M; simp; omega, hI'⟩
      case measure => show (restOf t.data.toList).length < t.size; exact hlt2
end Go.Proofs.Ytncfkfpjoohinaa
