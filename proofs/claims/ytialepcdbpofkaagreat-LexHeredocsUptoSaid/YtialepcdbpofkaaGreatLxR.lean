/- Contracts of lex's lineOf and of a plain Heredoc, at the beginning of a text, over whatever run of lines. Conditions: sizes. -/
import Derived.Test.YtialepcdbpofkaaGreatLxO
import Derived.Test.YtialepcdbpofkaaGreatLxP
import Derived.Test.YtialepcdbpofkaaGreatCln
namespace Go.Proofs.YtialepcdbpofkaaGreat
open Go.RowKit
open Go.Lib (hid)

/-- The lines from the place p on, up to the one that is end: where it begins, where the next one would, is there such a line? -/
inductive Ln (s : ByteArray) (e : List UInt8) : Nat → Nat → Nat → Nat → Bool → Prop
  | fin : Ln s e 0 s.size 0 0 false
  | hit (p : Nat) (hp : p < s.size) (h : befL 10 (s.data.toList.drop p) = e) : Ln s e 0 p p (min (p + (befL 10 (s.data.toList.drop p)).length + 1) s.size) true
  | step (n p a b : Nat) (o : Bool) (hp : p < s.size) (h : befL 10 (s.data.toList.drop p) ≠ e) (hr : Ln s e n (min (p + (befL 10 (s.data.toList.drop p)).length + 1) s.size) a b o) : Ln s e (n + 1) p a b o

theorem beq_arr (a b : List UInt8) : ((⟨a.toArray⟩ : ByteArray).toList == (⟨b.toArray⟩ : ByteArray).toList) = (a == b) := by simp [toList_data]

set_option maxRecDepth 100000 in
set_option maxHeartbeats 4000000 in
theorem lineOf_run (s : ByteArray) (hs : s.size ≤ 9007199254740992) (e : List UInt8) (n a b : Nat) (o : Bool) (h : Ln s e n 0 a b o) (w : World) :
    Calls Tryz.prog 31 #[.string s, .int .i64 0, encS e] w fun x w' => x = .returned (.tuple #[.int .i64 a, .int .i64 b, .bool o]) ∧ ∃ n, w' = w.drewN n := by
  go_enter Tryz.func31, Tryz.ntmps31
  go_wp2_with fail
  go_loopg [1] n (fun k v1 wr => ∃ p : Nat, v1 = .int .i64 p ∧ p ≤ s.size ∧ Hid (Ln s e k p a b o) ∧ ∃ m, wr = w.drewN m)
  case atStart => exact ⟨0, rfl, Nat.zero_le _, hid h, 0, rfl⟩
  case round =>
    obtain ⟨p, rfl, hps, HC, m, rfl⟩ := hrel
    have hp0 : (0 : Int) ≤ (p : Int) := by omega
    have hpi : (p : Int) ≤ (s.size : Int) := by omega
    have hsi : (s.size : Int) ≤ 9007199254740992 := by omega
    have cC := fun W => cut_one1 10 (s.extract p s.size) W (by rw [ByteArray.size_extract]; omega)
    rw [ext_from] at cC
    have hle := bef_le 10 (s.data.toList.drop p)
    rw [List.length_drop, len_toList] at hle
    rcases HC.out with ⟨_⟩ | ⟨_, hp, he⟩ | ⟨k, _, _, _, _, hp, he, hr⟩
    · clear HC h cC hle
      go_wp2_with fail
      go_ret3
      exact ⟨rfl, _, rfl⟩
    · have hpl : (a : Int) < (s.size : Int) := by omega
      obtain ⟨t, ht⟩ : ∃ t, befL 10 (s.data.toList.drop a) = t := ⟨_, rfl⟩
      rw [ht] at cC hle he
      have hq : (t == e) = true := by simpa using he
      have hts : (⟨t.toArray⟩ : ByteArray).size = t.length := by simp [ByteArray.size]
      obtain ⟨k1, hk1⟩ : ∃ k1, t.length = k1 := ⟨_, rfl⟩
      rw [hk1] at hle hts
      have hk0 : (0 : Int) ≤ (k1 : Int) := by omega
      have hki : (a : Int) + (k1 : Int) + 1 ≤ 9007199254740993 := by omega
      have hmn := hid (show (((min (a + (befL 10 (s.data.toList.drop a)).length + 1) s.size : Nat)) : Int) = min ((a : Int) + (k1 : Int) + 1) (s.size : Int) by rw [ht, hk1]; omega)
      clear HC h ht hk1 he hle
      go_wp2_with (go_at_call 40; (with_reducible refine (cC _).mono ?_); rintro e w1 ⟨x, b, n, rfl, rfl⟩)
      all_goals
        go_ret3
        refine ⟨?_, _, rfl⟩
        rw [hmn.out]
        rfl
    · have hpl : (p : Int) < (s.size : Int) := by omega
      obtain ⟨t, ht⟩ : ∃ t, befL 10 (s.data.toList.drop p) = t := ⟨_, rfl⟩
      rw [ht] at cC hle he hr
      have hq : (t == e) = false := by simpa using he
      have hts : (⟨t.toArray⟩ : ByteArray).size = t.length := by simp [ByteArray.size]
      obtain ⟨k1, hk1⟩ : ∃ k1, t.length = k1 := ⟨_, rfl⟩
      rw [hk1] at hle hts
      rw [hk1] at hr
      have hk0 : (0 : Int) ≤ (k1 : Int) := by omega
      have hki : (p : Int) + (k1 : Int) + 1 ≤ 9007199254740993 := by omega
      have hmn := hid (show (((min (p + k1 + 1) s.size : Nat)) : Int) = min ((p : Int) + (k1 : Int) + 1) (s.size : Int) by omega)
      have HR := hid hr
      have hqs : min (p + k1 + 1) s.size ≤ s.size := Nat.min_le_right _ _
      clear HC h ht hk1 he hle hr
      generalize (min (p + k1 + 1) s.size) = q at *
      go_wp2_with (go_at_call 40; (with_reducible refine (cC _).mono ?_); rintro e w1 ⟨x, b, n, rfl, rfl⟩)
      all_goals
        go_roundg k
        case rel => exact ⟨q, by rw [hmn.out], hqs, HR, _, rfl⟩
        case measure => exact Nat.lt_succ_self k

/-- What a plain Heredoc tells, where there is such a line, and where there is none. -/
def HPost (w : World) (s : ByteArray) (a b : Nat) : Bool → Ending → World → Prop
  | true, e, w' => Below w.heap.size w w' ∧ ∃ A c, e = .returned (.tuple #[.agg #[.slice A 1 c], .int .i64 b, .int .i64 0]) ∧ SrcP w' A [textPt (s.data.toList.take a) true]
  | false, e, w' => Below w.heap.size w w' ∧ e = .returned (.tuple #[.agg #[.slice none 0 0], .int .i64 s.size, .int .i64 8])

set_option maxRecDepth 100000 in
set_option maxHeartbeats 4000000 in
theorem heredoc_run (s : ByteArray) (bash : Bool) (hs : s.size ≤ 9007199254740992) (en : List UInt8) (n a b : Nat) (o : Bool) (h : Ln s en n 0 a b o) (ha : a ≤ 281474976710656) (has : a ≤ s.size) (w : World) :
    Calls Tryz.prog 16 #[.string s, .int .i64 0, encS en, .bool true, .bool bash] w (HPost w s a b o) := by
  have cI := fun W => inside_zero s W
  have cL := fun W => lineOf_run s hs en n a b o h W
  have hw0 := heap_alloc_new w (.cells #[.slice none 0 0] 25)
  have hb0 : Below w.heap.size w (w.alloc (.cells #[.slice none 0 0] 25)) := (Below.refl _ _).alloc (Nat.le_refl _) _
  cases o
  · have v0 : ∀ m, ((w.alloc (.cells #[.slice none 0 0] 25)).drewN m).cell? ⟨w.heap.size, 0, none⟩ = some (.slice none 0 0) := fun m => by show (w.alloc (.cells #[.slice none 0 0] 25)).cell? _ = _; rw [Lib.cell_of_heap hw0]; rfl
    have v1 : ∀ m, ((w.alloc (.cells #[.slice none 0 0] 25)).drewN m).frozen? ⟨w.heap.size, 0, none⟩ = false := fun m => Lib.frozen_of_heap (w := (w.alloc (.cells #[.slice none 0 0] 25)).drewN m) hw0 0
    have HB := hid (And.intro hb0 hw0)
    clear hb0 hw0
    go_enter Tryz.func16, Tryz.ntmps16
    go_wp2_with (first
      | (go_at_call 18; (with_reducible refine (cI _).mono ?_); rintro e w1 ⟨rfl, hw⟩; have hw := hw.symm; subst hw)
      | (go_at_call 31; (with_reducible refine (cL _).mono ?_); rintro e w1 ⟨rfl, m, rfl⟩; have v2 := v0 m; have v3 := v1 m))
    have hwz : (((w.alloc (.cells #[.slice none 0 0] 25)).drewN m).setCell ⟨w.heap.size, 0, none⟩ (.slice none 0 0)).heap[w.heap.size]? = some (.cells #[.slice none 0 0] 25 (0, 0)) := by
      have := heap_setCell_same ((w.alloc (.cells #[.slice none 0 0] 25)).drewN m) w.heap.size 0 _ _ (.slice none 0 0) (show ((w.alloc (.cells #[.slice none 0 0] 25)).drewN m).heap[w.heap.size]? = _ from HB.out.2)
      rw [this]; rfl
    have e9 : (((w.alloc (.cells #[.slice none 0 0] 25)).drewN m).setCell ⟨w.heap.size, 0, none⟩ (.slice none 0 0)).cell? ⟨w.heap.size, 0, none⟩ = some (.slice none 0 0) := by rw [Lib.cell_of_heap hwz]; rfl
    exact bodyPost_ret (v := .tuple #[.agg #[.slice none 0 0], .int .i64 s.size, .int .i64 8]) (by simp [results, Tryz.results16, go_sem, e9]) rfl ⟨(below_drewN HB.out.1 m).setCell (p := ⟨w.heap.size, 0, none⟩) (Nat.le_refl _) _, rfl⟩
  · have hx : s.extract 0 a = ⟨(s.data.toList.take a).toArray⟩ := (mk_takeN s a).symm
    have hai : (a : Int) ≤ (s.size : Int) := by omega
    have ha0 : (0 : Int) ≤ (a : Int) := by omega
    have hsi : (s.size : Int) ≤ 9007199254740992 := by omega
    have cC := fun W => clone_any (s.data.toList.take a) (by rw [List.length_take]; omega) W
    have HW : Hid (∀ m W1, Below ((w.alloc (.cells #[.slice none 0 0] 25)).drewN m).heap.size ((w.alloc (.cells #[.slice none 0 0] 25)).drewN m) W1 → Below w.heap.size w W1 ∧ W1.heap[w.heap.size]? = some (.cells #[.slice none 0 0] 25 (0, 0)) ∧ w.heap.size < W1.heap.size) := hid fun m W1 hb => by
      have h1 := heap_below' (w := (w.alloc (.cells #[.slice none 0 0] 25)).drewN m) hw0 hb
      exact ⟨(below_drewN hb0 m).trans (hb.mono (show w.heap.size ≤ (w.alloc (.cells #[.slice none 0 0] 25)).heap.size by simp)), h1, lt_of_block h1⟩
    obtain ⟨t, ht⟩ : ∃ t, s.data.toList.take a = t := ⟨_, rfl⟩
    rw [ht] at hx cC
    have HT := hid ht
    clear hb0 hw0 ht
    go_enter Tryz.func16, Tryz.ntmps16
    go_wp2_with (first
      | (go_at_call 18; (with_reducible refine (cI _).mono ?_); rintro e w1 ⟨rfl, hw⟩; have hw := hw.symm; subst hw)
      | (go_at_call 31; (with_reducible refine (cL _).mono ?_); rintro e w1 ⟨rfl, m, rfl⟩)
      | (go_at_call 32; (with_reducible refine (cC _).mono ?_); rintro e W1 ⟨rfl, hbc⟩; obtain ⟨hb1, hw1, hlt1⟩ := HW.out m W1 hbc; have hb2 : Below W1.heap.size W1 (W1.alloc (.cells #[.int .i64 1, encS t, .string ⟨#[]⟩, .string ⟨#[]⟩, .bool true, .slice none 0 0, .slice none 0 0, .slice none 0 0, .slice none 0 0, .int .i64 0] 34)) := (Below.refl _ _).alloc (Nat.le_refl _) _; have hw2 := heap_below' hw1 hb2; have v0 : (W1.alloc (.cells #[.int .i64 1, encS t, .string ⟨#[]⟩, .string ⟨#[]⟩, .bool true, .slice none 0 0, .slice none 0 0, .slice none 0 0, .slice none 0 0, .int .i64 0] 34)).cell? ⟨w.heap.size, 0, none⟩ = some (.slice none 0 0) := (by rw [Lib.cell_of_heap hw2]; rfl); have v1 := Lib.frozen_of_heap hw2 0))
    have hw3 : (W1.setCell ⟨w.heap.size, 0, none⟩ (.slice (some ⟨W1.heap.size, 0, none⟩) 1 1)).heap[w.heap.size]? = some (.cells #[.slice (some ⟨W1.heap.size, 0, none⟩) 1 1] 25 (0, 0)) := by rw [heap_setCell_same _ _ _ _ _ _ hw1]; rfl
    have hsz3 : (W1.setCell ⟨w.heap.size, 0, none⟩ (.slice (some ⟨W1.heap.size, 0, none⟩) 1 1)).heap.size = W1.heap.size := by simp [World.setCell]
    have hb4 : Below (W1.setCell ⟨w.heap.size, 0, none⟩ (.slice (some ⟨W1.heap.size, 0, none⟩) 1 1)).heap.size (W1.setCell ⟨w.heap.size, 0, none⟩ (.slice (some ⟨W1.heap.size, 0, none⟩) 1 1)) ((W1.setCell ⟨w.heap.size, 0, none⟩ (.slice (some ⟨W1.heap.size, 0, none⟩) 1 1)).alloc (.cells #[.int .i64 1, encS t, .string ⟨#[]⟩, .string ⟨#[]⟩, .bool true, .slice none 0 0, .slice none 0 0, .slice none 0 0, .slice none 0 0, .int .i64 0] 34)) := (Below.refl _ _).alloc (Nat.le_refl _) _
    have hw4 := heap_below' hw3 hb4
    have e9 : ((W1.setCell ⟨w.heap.size, 0, none⟩ (.slice (some ⟨W1.heap.size, 0, none⟩) 1 1)).alloc (.cells #[.int .i64 1, encS t, .string ⟨#[]⟩, .string ⟨#[]⟩, .bool true, .slice none 0 0, .slice none 0 0, .slice none 0 0, .slice none 0 0, .int .i64 0] 34)).cell? ⟨w.heap.size, 0, none⟩ = some (.slice (some ⟨W1.heap.size, 0, none⟩) 1 1) := by rw [Lib.cell_of_heap hw4]; rfl
    have hp3 : ((W1.setCell ⟨w.heap.size, 0, none⟩ (.slice (some ⟨W1.heap.size, 0, none⟩) 1 1)).alloc (.cells #[.int .i64 1, encS t, .string ⟨#[]⟩, .string ⟨#[]⟩, .bool true, .slice none 0 0, .slice none 0 0, .slice none 0 0, .slice none 0 0, .int .i64 0] 34)).heap[W1.heap.size]? = some (.cells #[.int .i64 1, encS t, .string ⟨#[]⟩, .string ⟨#[]⟩, .bool true, .slice none 0 0, .slice none 0 0, .slice none 0 0, .slice none 0 0, .int .i64 0] 34) := by have := heap_alloc_new (W1.setCell ⟨w.heap.size, 0, none⟩ (.slice (some ⟨W1.heap.size, 0, none⟩) 1 1)) (.cells #[.int .i64 1, encS t, .string ⟨#[]⟩, .string ⟨#[]⟩, .bool true, .slice none 0 0, .slice none 0 0, .slice none 0 0, .slice none 0 0, .int .i64 0] 34); rwa [hsz3] at this
    refine bodyPost_ret (v := .tuple #[.agg #[.slice (some ⟨W1.heap.size, 0, none⟩) 1 1], .int .i64 b, .int .i64 0]) (by simp [results, Tryz.results16, go_sem, e9]) rfl ⟨((hb1.setCell (p := ⟨w.heap.size, 0, none⟩) (Nat.le_refl _) _).trans (hb4.mono (by rw [hsz3]; exact hb1.size))), _, _, rfl, ?_⟩
    rw [HT.out]
    intro k hk
    obtain rfl : k = 0 := by simpa using hk
    refine ⟨_, _, rfl, fun j v hv => ?_⟩
    rw [Lib.cell_of_heap hp3]
    have hv : [.int .i64 1, encS t, .string ⟨#[]⟩, .string ⟨#[]⟩, .bool true, .slice none 0 0, .slice none 0 0, .slice none 0 0, .slice none 0 0, .int .i64 0][j]? = some v := hv
    simpa using hv
end Go.Proofs.YtialepcdbpofkaaGreat
