/- Contracts over slices of texts: octets.Sorted (sorted, in memory of its own), cowrieplain.SameTexts at equal lists (true). Conditions: sizes that the model's reach gives. -/
import Derived.Test.YtncfkfpjoohinaaOctD
import Derived.WalkSpells
import Derived.WalkLawsBesides
import Derived.Sort.OwnSorted
import Derived.Laws.MakeOwn
import Derived.Deep.Draws
namespace Go.Proofs.Ytncfkfpjoohinaa
open Go.RowKit
open Go.Lib (hid)

/-- The slice at A holds these texts. -/
def TextsAt (w : World) (A : Option Addr) (ls : List (List UInt8)) : Prop := ∀ k (h : k < ls.length), ∃ ad, A = some ad ∧ w.cell? (ad.add k) = some (encStr ls[k])

theorem TextsAt.below {w w' : World} {A : Option Addr} {ls : List (List UInt8)} (h : TextsAt w A ls) (hb : Below w.heap.size w w') : TextsAt w' A ls := fun k hk => by
  obtain ⟨ad, e, hc⟩ := h k hk
  exact ⟨ad, e, cell_later hb hc⟩
theorem TextsAt.drewN {w : World} {A : Option Addr} {ls : List (List UInt8)} (h : TextsAt w A ls) (n : Nat) : TextsAt (w.drewN n) A ls := h
theorem TextsAt.of_own {w : World} {N n c : Nat} {A : Option Addr} {ls : List (List UInt8)} (h : w.ownsRow N 9 1 (.slice A n c) n (ls.map encStr)) : TextsAt w A ls := fun k hk => by
  have hn : ls.length = n := by have := h.1; simpa using this
  rcases h.2 with ⟨h0, h1⟩ | ⟨g, cap, cur, hv, _⟩
  · omega
  · cases hv
    exact ⟨_, rfl, h.cells (g := g) rfl k _ (by simp [hk])⟩

theorem below_drewN {B : Nat} {a w : World} (h : Below B a w) (n : Nat) : Below B a (w.drewN n) := ⟨h.os, h.tape, h.output, h.size, h.block⟩
theorem grown_of_below {w w' : World} (h : Below w.heap.size w w') (row : Option Nat) : w.grownBy w' row := ⟨h.os, h.tape, h.output, h.size, fun i hi _ => h.block i hi⟩
theorem own_below {w w' : World} {N e k n : Nat} {v : Value} {xs : List Value} (h : w.ownsRow N e k v n xs) (hb : Below w.heap.size w w') : w'.ownsRow N e k v n xs := by
  refine h.kept (grown_of_below hb none) ?_
  cases v.ownBlock
  · exact .inl rfl
  · exact .inr (by simp)

set_option maxHeartbeats 1000000 in
theorem sameTexts_eq (A1 A2 : Option Addr) (c1 c2 : Nat) (ls : List (List UInt8)) (w : World) (hn : ls.length ≤ maxLen) (h1 : TextsAt w A1 ls) (h2 : TextsAt w A2 ls) :
    Calls Try.prog 18 #[.slice A1 ls.length c1, .slice A2 ls.length c2] w fun e w' => e = .returned (.bool true) ∧ ∃ n, w' = w.drewN n := by
  unfold maxLen at hn
  have HW : Hid (Below w.heap.size w w) := hid (Below.refl _ _)
  go_enter Try.func18, Try.ntmps18
  go_wp2
  go_loopw [5] (fun i wr => ∃ (k n : Nat), k ≤ ls.length ∧ i = .int .i64 k ∧ wr = w.drewN n) (fun i _ => ls.length - (intOf i).toNat)
  case atStart => exact ⟨0, 0, Nat.zero_le _, rfl, rfl⟩
  case round =>
    obtain ⟨k, n, hk, rfl, rfl⟩ := hrel
    by_cases hlt : k < ls.length
    · obtain ⟨a1, rfl, hc1⟩ := h1 k hlt
      obtain ⟨a2, rfl, hc2⟩ := h2 k hlt
      clear h1 h2
      go_wp2_with fail
      go_quiet (fail)
      go_wp2
      go_roundw
      case rel => exact ⟨k + 1, _, by omega, by go_num, rfl⟩
      case measure => simp [intOf]; omega
    · clear h1 h2
      go_wp2
      go_ret
      exact ⟨rfl, n, rfl⟩

theorem info_str : (Try.prog.info? 9).map (fun i => (i.zero, i.size, i.bytes)) = some (some (.string .empty), 1, 16) := by kernel_rfl

/-- In order by octets. -/
def sortL (ls : List (List UInt8)) : List (List UInt8) := ls.mergeSort fun x y => decide (x ≤ y)
theorem sortL_len (ls : List (List UInt8)) : (sortL ls).length = ls.length := List.length_mergeSort _

set_option maxHeartbeats 2000000 in
theorem sorted_any (A : Option Addr) (c : Nat) (ls : List (List UInt8)) (w : World) (hn : ls.length * 16 ≤ 140737488351232) (hl : ∀ l ∈ ls, l.length ≤ 281474976710656) (h : TextsAt w A ls) :
    Calls Try.prog 13 #[.slice A ls.length c] w fun e w' => ∃ g cap, e = .returned (.slice (some ⟨g, 0, none⟩) ls.length cap) ∧ w'.ownsRow w.heap.size 9 1 (.slice (some ⟨g, 0, none⟩) ls.length cap) ls.length ((sortL ls).map encStr) ∧ Below w.heap.size w w' := by
  obtain ⟨i0, hi, hz0, hz1, hz2⟩ := info_parts info_str
  have hmk : ∀ u : World, (Instr.makeSlice 29 (.int .i64 0) (.int .i64 (ls.length : Int))).run Try.prog u =
      .ok (.slice (some ⟨u.heap.size, 0, none⟩) 0 ls.length) (u.alloc (.cells (madeCells #[.string .empty] ls.length) 9)) := fun u => by
    have hr := run_make (P := Try.prog) u 29 9 i0 (.string .empty) Try.underlying29 hi hz0 .i64 .i64 (0 : Int) (ls.length : Int) (by omega) (by omega) (by rw [hz2]; omega) (by omega)
    simpa [hz1, Value.cells] using hr
  have hmade := World.ownsRow_made (base := w.heap.size) (e := 9) (size := 1) w (madeCells #[.string .empty] ls.length) ls.length (Nat.le_refl _) (by unfold maxLen; omega) (by simp [madeCells])
  have cS := Try.slices_Sort_string
  go_enter Try.func13, Try.ntmps13
  go_wp2
  go_loopw [3, 11] (fun v i wr => ∃ (k g cap : Nat), k ≤ ls.length ∧ i = .int .i64 k ∧ v = .slice (some ⟨g, 0, none⟩) k cap ∧ Below w.heap.size w wr ∧ wr.ownsRow w.heap.size 9 1 v k ((ls.map encStr).take k)) (fun _ i _ => ls.length - (intOf i).toNat)
  case atStart => exact ⟨0, w.heap.size, ls.length, Nat.zero_le _, rfl, rfl, (Below.refl _ _).alloc (Nat.le_refl _) _, hmade⟩
  case round =>
    obtain ⟨k, g, cap, hk, rfl, rfl, hB, hown⟩ := hrel
    clear hmade hmk
    by_cases hlt : k < ls.length
    · obtain ⟨ad, rfl, hc⟩ := (h.below hB) k hlt
      have hsz : (⟨ls[k].toArray⟩ : ByteArray).size ≤ 281474976710656 := hl _ (List.getElem_mem hlt)
      have cC := fun W => clone_any ⟨ls[k].toArray⟩ W hsz
      have HT : Hid ((ls.map encStr).take k ++ [encStr ls[k]] = (ls.map encStr).take (k + 1)) := hid (by rw [List.take_succ_eq_append_getElem (by simpa using hlt), List.getElem_map])
      clear h hl hsz cS
      go_wp2_with fail
      refine (cC _).mono ?_
      rintro e w1 ⟨rfl, hb1⟩
      have hown1 := own_below hown hb1
      have hB1 : Below w.heap.size w w1 := hB.trans (hb1.mono hB.size)
      clear hown hb1 hB
      go_wp2_with (at_builtin; refine wpList_append_own _ rfl _ _ 29 rfl w.heap.size 9 i0 (.string .empty) 1 16 Try.underlying29 hi hz0 hz1 hz2 rfl (by decide) _ _ _ rfl (hown1.alloc _) ⟨w1.heap.size, 0, none⟩ 1 1 [encStr ls[k]] rfl rfl ?c1 ?c2 ?c3 ?c4 ?c5 ?_)
      case c1 =>
        intro j u hj
        match j, hj with
        | 0, hj => simp at hj; subst hj; simp [Addr.add]
      case c2 => intro u hu; simp at hu; subst hu; rfl
      case c3 => unfold maxLen; omega
      case c4 => omega
      case c5 => have := hB1.size; simp; omega
      intro v' w3 hown' hg _
      have hB3 : Below w.heap.size w w3 := ((hB1.alloc hB1.size _).grown hg (by have := hB1.size; simp; omega) (fun k hk => (hown1.lt k hk).1))
      obtain ⟨g', cap', rfl⟩ : ∃ g cap, v' = .slice (some ⟨g, 0, none⟩) (k + 1) cap := by
        rcases hown'.2 with ⟨_, h0⟩ | ⟨g, cap, cur, hv, _⟩
        · omega
        · exact ⟨g, cap, hv⟩
      rw [HT.out] at hown'
      have HO := hid hown'
      clear hown' hg hown1
      go_wp2
      go_roundw
      case rel => exact ⟨k + 1, g', cap', by omega, by go_num, rfl, hB3, HO.out⟩
      case measure => simp [intOf]; omega
    · obtain rfl : k = ls.length := by omega
      rw [List.take_of_length_le (by simp)] at hown
      rcases hown.2 with ⟨h0, _⟩ | ⟨g1, cap1, cur, hv, hbase, hb, h1, h2, h3, h4⟩
      · cases h0
      cases hv
      have cS' := cS g 0 cap ls wr (holds_of_block hb (by simpa using h4)) (Array.getElem?_eq_some_iff.1 hb).1 (by omega)
      have hS : ∀ (W : World), (∃ n os, W = Sort.grow (Sort.putRow encStr (Sort.ahead wr n) g 0 (ls.mergeSort fun x y => decide (x ≤ y)).toArray) os) →
          W.ownsRow w.heap.size 9 1 (.slice (some ⟨g, 0, none⟩) ls.length cap) ls.length ((sortL ls).map encStr) ∧ Below w.heap.size w W := by
        rintro W ⟨n, os, rfl⟩
        exact ⟨ownsRow_sorted (sortL_len ls) hbase hb h1 h2 h3, hB.grown (grownBy_sorted _) hB.size (fun k hk => by cases hk; exact hbase)⟩
      have HS := hid hS
      clear h hl hS cS h1 h2 h3 h4 hb hown
      go_wp2_with fail
      refine cS'.mono ?_
      rintro e w1 ⟨rfl, hw1⟩
      obtain ⟨ho, hb1⟩ := HS.out _ hw1
      have HO := hid ho
      clear hw1 ho HS cS'
      go_wp2
      go_ret
      exact ⟨g, cap, rfl, HO.out, hb1⟩
end Go.Proofs.Ytncfkfpjoohinaa
