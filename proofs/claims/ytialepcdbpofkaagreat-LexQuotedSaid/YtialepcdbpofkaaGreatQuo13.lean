/- The law LexQuoted: a text in ' ' is one quoted part, over what Word answers at a text of more than MaxFile octets (LongOk). Conditions: sizes, LongOk. -/
import Derived.Test.YtialepcdbpofkaaGreatAlive13
import Derived.Test.YtialepcdbpofkaaGreatLxS
namespace Go.Proofs.YtialepcdbpofkaaGreat
open Go.RowKit
open Go.Lib (hid)

theorem index_quo : ∀ (x r : List UInt8), (∀ c ∈ x, c ≠ 39) → Lib.indexByte (x ++ 39 :: r) 39 = (x.length : Int)
  | [], r, _ => by rfl
  | c :: x, r, h => by
    rw [List.cons_append, show Lib.indexByte (c :: (x ++ 39 :: r)) 39 = if c == 39 then 0 else if Lib.indexByte (x ++ 39 :: r) 39 == -1 then -1 else Lib.indexByte (x ++ 39 :: r) 39 + 1 by conv => lhs; unfold Lib.indexByte]
    rw [if_neg (by simpa using h c (List.mem_cons_self ..)), index_quo x r (fun y hy => h y (List.mem_cons_of_mem _ hy)), if_neg (by simp <;> omega)]
    simp
theorem at_listQ {s : ByteArray} {pre r : List UInt8} {c : UInt8} (h : s.data.toList = pre ++ c :: r) : ∃ hp : pre.length < s.size, s[pre.length] = c := by
  have hp : pre.length < s.size := by rw [← len_toList, h]; simp
  refine ⟨hp, ?_⟩
  have h1 := getElem_toList s pre.length hp
  rw [← h1]
  simp only [h]
  simp
theorem opens_noQ {bash : Bool} {c : UInt8} {r : List UInt8} (h : c ≠ 60) : opensB bash (c :: r) = false := by
  unfold opensB Lib.hasPrefix
  have : ((60 : UInt8) == c) = false := by simpa using Ne.symm h
  simp [List.isPrefixOf, this]
def quoB (l : List UInt8) : Bg := ⟨[], true, l, true⟩
theorem quoted_run (l post : List UInt8) (bash : Bool) (hl : l.length ≤ 140737488351232) (hz : (⟨(39 :: (l ++ 39 :: 32 :: post)).toArray⟩ : ByteArray).size ≤ 281474976710656) (hall : ∀ c ∈ l, c ≠ 39) :
    ∃ n, Run 0 ⟨(39 :: (l ++ 39 :: 32 :: post)).toArray⟩ bash 0 n 0 Bg.new (.ok (l.length + 2, quoB l)) := by
  obtain ⟨s, hs⟩ : ∃ s : ByteArray, (⟨(39 :: (l ++ 39 :: 32 :: post)).toArray⟩ : ByteArray) = s := ⟨_, rfl⟩
  have hd : s.data.toList = 39 :: (l ++ 39 :: 32 :: post) := by rw [← hs]
  rw [hs] at hz ⊢
  clear hs
  obtain ⟨hp0, hc0⟩ := at_listQ (s := s) (pre := []) (r := l ++ 39 :: 32 :: post) (c := 39) (by rw [hd]; rfl)
  obtain ⟨hp1, hc1⟩ := at_listQ (s := s) (pre := 39 :: (l ++ [39])) (r := post) (c := 32) (by rw [hd]; simp)
  have hst := part_single 0 (by decide) s bash 0 0 l.length Bg.new hp0 hz hc0 (by simp [Bg.new]) (by simp [Bg.new]; omega) (by rw [hd]; exact index_quo l _ hall)
  have e1 : (s.data.toList.drop (0 + 1)).take l.length = l := by rw [hd]; simp
  have e2 : putB Bg.new l true = quoB l := by rfl
  rw [e1, e2] at hst
  have hl2 : (39 :: (l ++ [39])).length = 0 + 1 + l.length + 1 := by simp; omega
  have hfin := Run.stop (way := 0) (bash := bash) (d := 0) (39 :: (l ++ [39])).length (quoB l) hp1 (by
    have hdd : s.data.toList.drop (39 :: (l ++ [39])).length = 32 :: post := by
      rw [hd, show 39 :: (l ++ 39 :: 32 :: post) = (39 :: (l ++ [39])) ++ 32 :: post by simp, List.drop_left]
    rw [hc1, hdd]
    show (stopB 32 && !opensB bash (32 :: post)) = true
    rw [opens_noQ (by decide)]
    decide +kernel)
  rw [hl2] at hfin
  refine ⟨1, .step 0 0 (0 + 1 + l.length + 1) _ _ _ hp0 ?_ hst ?_⟩
  · rw [show s[0] = 39 from hc0]
    show (stopB 39 && !opensB bash (s.data.toList.drop 0)) = false
    rw [show stopB 39 = false by decide +kernel]
    rfl
  · have e3 : 0 + 1 + l.length + 1 = l.length + 2 := by omega
    rw [e3] at hfin ⊢
    exact hfin
theorem cat_arrQ (a b : List UInt8) : (⟨a.toArray⟩ : ByteArray) ++ ⟨b.toArray⟩ = ⟨(a ++ b).toArray⟩ := by
  apply ByteArray.ext
  rw [ByteArray.data_append]
  simp
theorem quoT_size (l R : List UInt8) : (⟨(39 :: (l ++ 39 :: 32 :: R)).toArray⟩ : ByteArray).size = l.length + R.length + 3 := by
  show (39 :: (l ++ 39 :: 32 :: R)).toArray.size = _
  rw [List.size_toArray]
  simp only [List.length_cons, List.length_append]
  omega
/-- What Word answers at a text of more than MaxFile octets that begins with a quoted one: no parts, and ErrLong. -/
def LongOk : Prop := ∀ (l post : List UInt8) (bash : Bool) (W : World), (∀ c ∈ l, c ≠ 39) → l.length ≤ 140737488351232 → 65536 < (⟨(39 :: (l ++ 39 :: 32 :: post)).toArray⟩ : ByteArray).size → (⟨(39 :: (l ++ 39 :: 32 :: post)).toArray⟩ : ByteArray).size ≤ 281474976710656 →
  Calls Tryz.prog 10 #[.string ⟨(39 :: (l ++ 39 :: 32 :: post)).toArray⟩, .int .i64 0, .bool bash] W fun e w' => Below W.heap.size W w' ∧ ∃ n, e = .returned (.tuple #[.agg #[.slice none 0 0], .int .i64 n, .int .i64 5])

set_option maxRecDepth 100000 in
set_option maxHeartbeats 4000000 in
theorem quoted_walk (hlong : LongOk) (s rest : ByteArray) (bash : Bool) (w : World) (hs : s.size ≤ 140737488351232) (hr : rest.size ≤ 140737488351232) :
    Calls Tryz.prog 3 #[.string s, .string rest, .bool bash] w fun e w' => e = .returned (.bool true) ∧ Below w.heap.size w w' := by
  have hsi : (s.size : Int) ≤ 140737488351232 := by omega
  have hri : (rest.size : Int) ≤ 140737488351232 := by omega
  have HL := hid hlong
  clear hlong
  go_enter Tryz.func3, Tryz.ntmps3
  go_wp2_with fail
  refine (alive_any _).mono ?_
  rintro e w1 ⟨rfl, hb1⟩
  go_wp2_with fail
  go_loopw [7] (fun vi wr => ∃ k : Nat, vi = .int .i64 k ∧ k ≤ s.size ∧ Hid (∀ c ∈ s.data.toList.take k, c ≠ 39) ∧ wr = w1) (fun vi _ => s.size - (intOf vi).toNat)
  case atStart => exact ⟨0, rfl, Nat.zero_le _, hid (by simp), rfl⟩
  case round =>
    obtain ⟨k, rfl, hk, HA, hwr⟩ := hrel
    have hwr := hwr.symm
    subst hwr
    have hk0 : (0 : Int) ≤ (k : Int) := by omega
    by_cases hlt : k < s.size
    · have hki : (k : Int) < (s.size : Int) := by omega
      obtain ⟨c, hc⟩ : ∃ c, s[k] = c := ⟨_, rfl⟩
      have htk := take_snoc s k hlt
      rw [hc] at htk
      by_cases h39 : c = 39
      · have g39 : ((c.toNat : Int) == 39) = true := by rw [h39]; rfl
        clear htk h39
        go_wp2_with fail
        go_ret
        exact ⟨rfl, hb1⟩
      · have g39 : ((c.toNat : Int) == 39) = false := u8_ne h39
        by_cases h0 : c = 0
        · have g0 : ((c.toNat : Int) == 0) = true := by rw [h0]; rfl
          clear htk h39 h0
          go_wp2_with fail
          go_ret
          exact ⟨rfl, hb1⟩
        · have g0 : ((c.toNat : Int) == 0) = false := u8_ne (n := 0) h0
          have HA2 : Hid (∀ y ∈ s.data.toList.take (k + 1), y ≠ 39) := hid (fun y hy => by
            rw [htk, List.mem_append] at hy
            rcases hy with hy | hy
            · exact HA.out y hy
            · simp at hy; rw [hy]; exact h39)
          clear htk h39 h0
          go_wp2_with fail
          go_roundw
          case rel => exact ⟨k + 1, by go_num, by omega, HA2, trivial⟩
          case measure => simp [intOf]; omega
    · have hke : k = s.size := by omega
      subst hke
      have hki : ¬ (s.size : Int) < (s.size : Int) := by omega
      have hall : ∀ c ∈ s.data.toList, c ≠ 39 := by
        have := HA.out
        rwa [show s.data.toList.take s.size = s.data.toList by rw [← len_toList, List.take_length]] at this
      obtain ⟨l, hl⟩ : ∃ l, s.data.toList = l := ⟨_, rfl⟩
      have hll : l.length = s.size := by rw [← hl, len_toList]
      have hsl : s = ⟨l.toArray⟩ := by rw [← hl]
      obtain ⟨R, hR⟩ : ∃ R, rest.data.toList = R := ⟨_, rfl⟩
      have hRl : R.length = rest.size := by rw [← hR, len_toList]
      have hre : rest = ⟨R.toArray⟩ := by rw [← hR]
      rw [hl] at hall
      have hbq : (l == s.toList) = true := by rw [toList_data, hl]; simp
      have hcat : (((⟨#[39]⟩ : ByteArray) ++ s) ++ ⟨#[39, 32]⟩) ++ rest = ⟨(39 :: (l ++ 39 :: 32 :: R)).toArray⟩ := by
        rw [hsl, hre, show (⟨#[39]⟩ : ByteArray) = ⟨([39] : List UInt8).toArray⟩ from rfl, show (⟨#[39, 32]⟩ : ByteArray) = ⟨([39, 32] : List UInt8).toArray⟩ from rfl, cat_arrQ, cat_arrQ, cat_arrQ]
        simp
      have hTz : (⟨(39 :: (l ++ 39 :: 32 :: R)).toArray⟩ : ByteArray).size = s.size + rest.size + 3 := by rw [quoT_size, hll, hRl]
      have z1 : (((⟨#[39]⟩ : ByteArray) ++ s).size : Int) = (s.size : Int) + 1 := by rw [ByteArray.size_append]; show ((1 + s.size : Nat) : Int) = _; omega
      have z2 : ((((⟨#[39]⟩ : ByteArray) ++ s) ++ ⟨#[39, 32]⟩ : ByteArray).size : Int) = (s.size : Int) + 3 := by
        rw [ByteArray.size_append]
        show (((((⟨#[39]⟩ : ByteArray) ++ s).size + 2 : Nat)) : Int) = _
        omega
      by_cases hlg : 65536 < (⟨(39 :: (l ++ 39 :: 32 :: R)).toArray⟩ : ByteArray).size
      · have cW := fun W => HL.out l R bash W hall (by omega) hlg (by rw [hTz]; omega)
        have hli : (65536 : Int) < ((⟨(39 :: (l ++ 39 :: 32 :: R)).toArray⟩ : ByteArray).size : Int) := by omega
        clear hTz hlg hre hR hRl hsl hall hl hbq hll
        generalize (⟨(39 :: (l ++ 39 :: 32 :: R)).toArray⟩ : ByteArray) = T at *
        go_wp2_with fail
        refine (cW _).mono ?_
        rintro e w3 ⟨hb3, n, rfl⟩
        have hb1s := hb1.size
        have hbb : Below w.heap.size w (w3.alloc (.cells #[.slice none 0 0] 25)) := hb1.trans ((hb3.mono hb1s).trans (((Below.refl _ _).alloc (Nat.le_refl _) _).mono (Nat.le_trans hb1s hb3.size)))
        have HBB := hid hbb
        clear hbb hb3 hb1s
        go_wp2_with fail
        go_ret
        exact ⟨rfl, HBB.out⟩
      · obtain ⟨n, hrun⟩ := quoted_run l R bash (by omega) (by rw [hTz]; omega) hall
        have cW : ∀ W, Calls Tryz.prog 10 #[.string ⟨(39 :: (l ++ 39 :: 32 :: R)).toArray⟩, .int .i64 0, .bool bash] W fun e w' => Below W.heap.size W w' ∧ ∃ A c, e = .returned (.tuple #[.agg #[.slice A 1 c], .int .i64 ((l.length + 2 : Nat) : Int), .int .i64 0]) ∧ w'.ownsRow W.heap.size 34 10 (.slice A 1 c) 1 (rowPt [textPt l true]) := fun W =>
          (word_any _ (by rw [hTz]; omega) bash n _ hrun (fun q b h => by cases h; simp [quoB]) (fun e q h => by cases h) (fun q b h => by cases h; rw [hTz]; omega) W).mono fun e w' h => by
            obtain ⟨h1, h2⟩ := WPost.ok (l := [textPt l true]) h
            rw [if_pos (by omega)] at h2
            exact ⟨h1, h2⟩
        have hli : ¬ (65536 : Int) < ((⟨(39 :: (l ++ 39 :: 32 :: R)).toArray⟩ : ByteArray).size : Int) := by omega
        have hlz : ((l.length + 2 : Nat) : Int) = (s.size : Int) + 2 := by omega
        have htx : textL [textPt l true] = l := by simp [textL, textPt]
        have HTX := hid htx
        have HLL := hid hll
        clear hrun hTz hlg hre hR hRl hsl hall hl htx hll
        rw [hlz] at cW
        generalize (⟨(39 :: (l ++ 39 :: 32 :: R)).toArray⟩ : ByteArray) = T at *
        go_wp2_with fail
        refine (cW _).mono ?_
        rintro e w3 ⟨hb3, A, c, rfl, ho⟩
        clear cW
        have hbw : Below w3.heap.size w3 (w3.alloc (.cells #[.slice A 1 c] 25)) := (Below.refl _ _).alloc (Nat.le_refl _) _
        have hww := heap_alloc_new w3 (.cells #[.slice A 1 c] 25)
        have hsrc : SrcP (w3.alloc (.cells #[.slice A 1 c] 25)) A [textPt l true] := (own_src ho rfl).below hbw
        have hb1s := hb1.size
        have hb3s := hb3.size
        have hbb : Below w.heap.size w (w3.alloc (.cells #[.slice A 1 c] 25)) := hb1.trans ((hb3.mono hb1s).trans (hbw.mono (Nat.le_trans hb1s hb3s)))
        have cL : Calls Tryz.prog 11 #[.agg #[.slice A 1 c]] (w3.alloc (.cells #[.slice A 1 c] 25)) fun e w' => e = .returned (.tuple #[encS l, .bool true]) ∧ Below (w3.alloc (.cells #[.slice A 1 c] 25)).heap.size (w3.alloc (.cells #[.slice A 1 c] 25)) w' := by
          have := literal_text A c [textPt l true] _ hsrc (by simp) (by rw [HTX.out]; omega) (fun p hp => by simp at hp; subst hp; rfl)
          rw [HTX.out] at this
          exact this
        have k0 : (w3.alloc (.cells #[.slice A 1 c] 25)).cell? ⟨w3.heap.size, 0, none⟩ = some (.slice A 1 c) := by rw [Lib.cell_of_heap hww]; rfl
        have HBB := hid (And.intro hbb hsrc)
        have HWW := hid hww
        clear hbw hww hsrc hbb hb1s hb3s ho hb3
        generalize hW3 : w3.alloc (.cells #[.slice A 1 c] 25) = W3 at *
        obtain ⟨g, o, hA, hrg⟩ := HBB.out.2 0 (by simp)
        subst hA
        go_wp2_with (first
          | (go_at_call 11; (with_reducible refine cL.mono ?_); rintro e w4 ⟨rfl, hb4⟩; have hw4 := heap_below' HWW.out hb4; have k4 : w4.cell? ⟨w3.heap.size, 0, none⟩ = some (.slice (some ⟨g, o, none⟩) 1 c) := by {rw [Lib.cell_of_heap hw4]; rfl}; have q4 : w4.cell? ⟨g, o + 4, none⟩ = some (.bool true) := cell_below hb4 (hrg 4 _ rfl)))
        have cQ : Calls Tryz.prog 12 #[.agg #[.slice (some ⟨g, o, none⟩) 1 c]] w4 fun e w' => e = .returned (.bool true) ∧ Below w4.heap.size w4 w' :=
          quoted_hit (some ⟨g, o, none⟩) c [textPt l true] w4 (HBB.out.2.below hb4) (by simp) 0 (by simp) (fun k h hk => absurd hk (Nat.not_lt_zero _)) rfl
        refine cQ.mono ?_
        rintro e w5 ⟨rfl, hb5⟩
        have hw5 := heap_below' hw4 hb5
        have k5 : w5.cell? ⟨w3.heap.size, 0, none⟩ = some (.slice (some ⟨g, o, none⟩) 1 c) := by rw [Lib.cell_of_heap hw5]; rfl
        have cT : Calls Tryz.prog 13 #[.agg #[.slice (some ⟨g, o, none⟩) 1 c]] w5 fun e w' => e = .returned (encS l) ∧ Below w5.heap.size w5 w' := by
          have hll := HLL.out
          have := text_any (some ⟨g, o, none⟩) c [textPt l true] w5 ((HBB.out.2.below hb4).below hb5) (by simp) (by rw [HTX.out]; omega)
          rw [HTX.out] at this
          exact this
        have HBF : Hid (∀ w', Below w5.heap.size w5 w' → Below w.heap.size w w') := hid fun w' h =>
          HBB.out.1.trans ((hb4.mono HBB.out.1.size).trans ((hb5.mono (Nat.le_trans HBB.out.1.size hb4.size)).trans (h.mono (Nat.le_trans HBB.out.1.size (Nat.le_trans hb4.size hb5.size)))))
        clear cQ hw5 hw4 hb4 hb5 hrg k4 q4 k0 cL
        go_wp2_with (go_at_call 13; (with_reducible refine cT.mono ?_); rintro e w6 ⟨rfl, hb6⟩)
        go_ret
        exact ⟨rfl, HBF.out _ hb6⟩
end Go.Proofs.YtialepcdbpofkaaGreat
