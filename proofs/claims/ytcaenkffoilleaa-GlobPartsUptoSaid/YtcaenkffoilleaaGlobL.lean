/- Contracts of glob.Plain and of the law file's alive. Conditions: a text of at most 2^21 octets. -/
import Derived.Test.YtcaenkffoilleaaGlobK
import Derived.Laws.MakeOwn
import Derived.Laws.OwnMore
namespace Go.Proofs.Ytcaenkffoilleaa
open Go.RowKit
open Go.Lib (hid)

theorem info_char : (Try.prog.info? 29).map (fun i => (i.zero, i.size, i.bytes)) = some (some (.agg #[.int .u8 0, .bool false]), 2, 2) := by kernel_rfl
def chCells (l : List Ch) : List Value := l.flatMap fun c => [.int .u8 c.1.toNat, .bool c.2]
def plainL (q : Bool) (l : List UInt8) : List Ch := l.map fun c => (c, q)
theorem chCells_len : ∀ l : List Ch, (chCells l).length = l.length * 2
  | [] => rfl
  | c :: l => by
    have := chCells_len l
    simp only [chCells, List.flatMap_cons, List.length_append, List.length_cons, List.length_nil] at this ⊢
    omega
theorem chCells_at : ∀ (l : List Ch) (k : Nat) (h : k < l.length), (chCells l)[k * 2]? = some (.int .u8 l[k].1.toNat) ∧ (chCells l)[k * 2 + 1]? = some (.bool l[k].2)
  | c :: l, 0, _ => ⟨rfl, rfl⟩
  | c :: l, k + 1, h => by
    have := chCells_at l k (by simpa using h)
    have e1 : (k + 1) * 2 = k * 2 + 2 := by omega
    rw [e1]
    exact this
theorem chCells_snoc (l : List Ch) (c : Ch) : chCells (l ++ [c]) = chCells l ++ [.int .u8 c.1.toNat, .bool c.2] := by simp [chCells]
theorem CharsAt.of_own {w : World} {N n cap : Nat} {A : Option Addr} {l : List Ch} (h : w.ownsRow N 29 2 (.slice A n cap) n (chCells l)) : CharsAt w A l := fun k hk => by
  rcases h.2 with ⟨h0, h1⟩ | ⟨g, cap', cur, hv, _⟩
  · have := h.1
    rw [chCells_len] at this
    omega
  · cases hv
    have hc : ∀ j u, (chCells l)[j]? = some u → w.cell? ⟨g, j, none⟩ = some u := fun j u hj => by
      have := h.cells (g := g) rfl j u hj
      simpa only [Addr.add_lit, Nat.zero_add] using this
    refine ⟨g, 0, rfl, ?_, ?_⟩
    · rw [Nat.zero_add]; exact hc _ _ (chCells_at l k hk).1
    · rw [Nat.zero_add]; exact hc _ _ (chCells_at l k hk).2

theorem take_set2 (xs : List Value) (i : Nat) (a b : Value) (h : i + 1 < xs.length) : ((xs.set i a).set (i + 1) b).take (i + 2) = xs.take i ++ [a, b] := by
  apply List.ext_getElem?
  intro j
  rw [List.getElem?_take, List.getElem?_append]
  simp only [List.length_take, Nat.min_eq_left (show i ≤ xs.length by omega)]
  by_cases h1 : j < i
  · rw [if_pos (by omega), if_pos h1, List.getElem?_set_ne (by omega), List.getElem?_set_ne (by omega), List.getElem?_take_of_lt h1]
  · rw [if_neg h1]
    by_cases h2 : j < i + 2
    · rw [if_pos h2]
      rcases (by omega : j = i ∨ j = i + 1) with rfl | rfl
      · rw [List.getElem?_set_ne (by omega), List.getElem?_set_self (by omega)]
        simp
      · rw [List.getElem?_set_self (by simp; omega)]
        simp
    · rw [if_neg h2, List.getElem?_eq_none (by simp; omega)]

theorem madeCells_len (n : Nat) : (madeCells #[Value.int .u8 0, .bool false] (n * 2)).size = n * 2 := by simp [madeCells]

set_option maxHeartbeats 1000000 in
theorem plain_any (s : ByteArray) (q : Bool) (w : World) (hs : s.size ≤ 2097152) :
    Calls Try.prog 9 #[.string s, .bool q] w fun e w' => e = .returned (.slice (some ⟨w.heap.size, 0, none⟩) s.size s.size) ∧ w'.ownsRow w.heap.size 29 2 (.slice (some ⟨w.heap.size, 0, none⟩) s.size s.size) s.size (chCells (plainL q s.data.toList)) ∧ Below w.heap.size w w' := by
  obtain ⟨i0, hi, hz0, hz1, hz2⟩ := info_parts info_char
  have hmk : ∀ u : World, (Instr.makeSlice 23 (.int .i64 (s.size : Int)) (.int .i64 (s.size : Int))).run Try.prog u =
      .ok (.slice (some ⟨u.heap.size, 0, none⟩) s.size s.size) (u.alloc (.cells (madeCells #[.int .u8 0, .bool false] (s.size * 2)) 29)) := fun u => by
    have hr := run_make (P := Try.prog) u 23 29 i0 (.agg #[.int .u8 0, .bool false]) Try.underlying23 hi hz0 .i64 .i64 (s.size : Int) (s.size : Int) (by omega) (by omega) (by rw [hz2]; omega) (by omega)
    simpa [hz1, Value.cells] using hr
  have hmade : (w.alloc (.cells (madeCells #[.int .u8 0, .bool false] (s.size * 2)) 29)).ownsRow w.heap.size 29 2 (.slice (some ⟨w.heap.size, 0, none⟩) s.size s.size) s.size (madeCells #[.int .u8 0, .bool false] (s.size * 2)).toList :=
    ⟨by rw [Array.length_toList, madeCells_len], .inr ⟨w.heap.size, s.size, _, rfl, Nat.le_refl _, heap_alloc_new w _, Nat.le_refl _, by unfold maxLen; omega, madeCells_len _, by rw [List.take_of_length_le (by rw [Array.length_toList, madeCells_len]; exact Nat.le_refl _)]⟩⟩
  have hB0 : Below w.heap.size w (w.alloc (.cells (madeCells #[.int .u8 0, .bool false] (s.size * 2)) 29)) := (Below.refl _ _).alloc (Nat.le_refl _) _
  obtain ⟨x0, hx0⟩ : ∃ x0, (madeCells #[Value.int .u8 0, .bool false] (s.size * 2)).toList = x0 := ⟨_, rfl⟩
  rw [hx0] at hmade
  clear hx0
  go_enter Try.func9, Try.ntmps9
  go_wp2
  go_loopw [12] (fun i wr => ∃ (k : Nat) (xs : List Value), k ≤ s.size ∧ i = .int .i64 k ∧ Below w.heap.size w wr ∧ wr.ownsRow w.heap.size 29 2 (.slice (some ⟨w.heap.size, 0, none⟩) s.size s.size) s.size xs ∧ Hid (xs.take (k * 2) = chCells (plainL q (s.data.toList.take k)))) (fun i _ => s.size - (intOf i).toNat)
  case atStart => exact ⟨0, x0, Nat.zero_le _, rfl, hB0, hmade, hid (by simp [plainL, chCells])⟩
  case round =>
    obtain ⟨k, xs, hk, rfl, hB, hown, HE⟩ := hrel
    clear hmade hmk hB0
    by_cases hlt : k < s.size
    · have hxl := hown.1
      have t1 := hown.stored (k * 2) (.int .u8 s[k].toNat)
      have t2 := t1.1.stored (k * 2 + 1) (.bool q)
      have HN : Hid (((xs.set (k * 2) (.int .u8 s[k].toNat)).set (k * 2 + 1) (.bool q)).take ((k + 1) * 2) = chCells (plainL q (s.data.toList.take (k + 1)))) := hid (by
        rw [show (k + 1) * 2 = k * 2 + 2 by omega, take_set2 _ _ _ _ (by omega), HE.out, take_snoc s k hlt]
        simp [plainL, chCells])
      have c1 := hown.cellAt (k * 2) (by omega)
      have c2 := hown.cellAt (k * 2 + 1) (by omega)
      rw [List.getElem?_eq_getElem (by omega)] at c1 c2
      have f1 := hown.frozenAt (k * 2)
      have f2 := hown.frozenAt (k * 2 + 1)
      have HO := hid t2.1
      have HB := hid ((hB.setCell (p := ⟨w.heap.size, k * 2, none⟩) (Nat.le_refl _) (.int .u8 s[k].toNat)).setCell (p := ⟨w.heap.size, k * 2 + 1, none⟩) (Nat.le_refl _) (.bool q))
      clear t1 t2 hown HE hB
      go_wp2
      go_roundw
      case rel => exact ⟨k + 1, _, by omega, by go_num, HB.out, HO.out, HN⟩
      case measure => simp [intOf]; omega
    · obtain rfl : k = s.size := by omega
      have hxs : xs = chCells (plainL q s.data.toList) := by
        have h := HE.out
        rwa [List.take_of_length_le (by rw [hown.1]; exact Nat.le_refl _), List.take_of_length_le (by rw [len_toList]; exact Nat.le_refl _)] at h
      subst hxs
      have HO := hid hown
      clear hown HE
      go_wp2
      go_ret
      exact ⟨rfl, HO.out, hB⟩

theorem lit_chars (w : World) (l : List Ch) : CharsAt (w.alloc (.cells (chCells l).toArray 29)) (some ⟨w.heap.size, 0, none⟩) l := fun k hk => by
  refine ⟨w.heap.size, 0, rfl, ?_, ?_⟩
  · rw [Nat.zero_add, World.cell?, heap_alloc_new]; simpa using (chCells_at l k hk).1
  · rw [Nat.zero_add, World.cell?, heap_alloc_new]; simpa using (chCells_at l k hk).2

set_option maxHeartbeats 1000000 in
theorem alive_any (w : World) : Calls Try.prog 11 #[] w fun e w' => e = .returned (.bool true) ∧ Below w.heap.size w w' := by
  have hC : CharsAt (w.alloc (.cells #[.int .u8 97, .bool false, .int .u8 42, .bool false, .int .u8 99, .bool false] 29)) (some ⟨w.heap.size, 0, none⟩) [(97, false), (42, false), (99, false)] := lit_chars w [(97, false), (42, false), (99, false)]
  have hB0 : Below w.heap.size w (w.alloc (.cells #[.int .u8 97, .bool false, .int .u8 42, .bool false, .int .u8 99, .bool false] 29)) := (Below.refl _ _).alloc (Nat.le_refl _) _
  have m1 : matchL (runsOf [(97, false), (42, false), (99, false)]) (⟨#[97, 98, 98, 99]⟩ : ByteArray).data.toList = true := by decide +kernel
  have m2 : matchL (runsOf [(97, false), (42, false), (99, false)]) (⟨#[97, 98, 98]⟩ : ByteArray).data.toList = false := by decide +kernel
  have cM := fun s hs W (hB : Below (w.alloc (.cells #[.int .u8 97, .bool false, .int .u8 42, .bool false, .int .u8 99, .bool false] 29)).heap.size (w.alloc (.cells #[.int .u8 97, .bool false, .int .u8 42, .bool false, .int .u8 99, .bool false] 29)) W) =>
    match_any (some ⟨w.heap.size, 0, none⟩) 3 [(97, false), (42, false), (99, false)] s W (by decide) (by decide) hs (fun a e => by cases e; exact Nat.lt_of_lt_of_le (by simp) hB.size) (hC.below hB)
  have cM1 := cM ⟨#[97, 98, 98, 99]⟩ (by decide) _ (Below.refl _ _)
  have cM2 := fun W => cM ⟨#[97, 98, 98]⟩ (by decide) W
  rw [m1] at cM1
  rw [m2] at cM2
  simp only [List.length_cons, List.length_nil, Nat.zero_add, Nat.reduceAdd] at cM1 cM2
  have cP := fun W => plain_any ⟨#[97, 98]⟩ true W (by decide)
  rw [show ByteArray.size ⟨#[97, 98]⟩ = 2 from rfl] at cP
  clear cM hC m1 m2
  go_enter Try.func11, Try.ntmps11
  go_wp2_with (first
    | (go_at_call 8; first | ((with_reducible refine cM1.mono ?_); rintro e w1 ⟨rfl, hb1⟩) | ((with_reducible refine (cM2 _ hb1).mono ?_); rintro e w2 ⟨rfl, hb2⟩))
    | (go_at_call 9; (with_reducible refine (cP _).mono ?_); rintro e w3 ⟨rfl, -, hb3⟩))
  go_ret
  exact ⟨rfl, hB0.trans ((hb1.trans ((hb2.trans (hb3.mono hb2.size)).mono hb1.size)).mono hB0.size)⟩
end Go.Proofs.Ytcaenkffoilleaa
