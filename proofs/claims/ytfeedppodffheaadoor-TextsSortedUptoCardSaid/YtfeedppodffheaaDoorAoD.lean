
/- Contract of ansi.Decode: it tells what the plain mathematics says; of what was in memory nothing has turned. No conditions but the size of a string. -/
import Derived.Test.YtfeedppodffheaaDoorAoC
namespace Go.Proofs.YtfeedppodffheaaDoor
namespace Ans
open Go.RowKit
open Go.Lib (hid)

def decEnd (n : Nat) : Except (Nat × Int) (List UInt8) → Ending
  | .ok t => .returned (.tuple #[.string ⟨t.toArray⟩, .int .i64 n, .int .i64 0])
  | .error x => .returned (.tuple #[.string .empty, .int .i64 x.1, .int .i64 x.2])

theorem below_cells {B : Nat} {s : Value} {n e : Int} {w w' : World} (h : Cells3 B s n e w) (hb : Below (B + 3) w w') : Cells3 B s n e w' := by
  obtain ⟨h1, h2, h3⟩ := h
  exact ⟨(hb.block B (by omega)).trans h1, (hb.block (B + 1) (by omega)).trans h2, (hb.block (B + 2) (by omega)).trans h3⟩

def W3 (w : World) : World := ((w.alloc (.cells #[.string .empty] 9)).alloc (.cells #[.int .i64 0] 3)).alloc (.cells #[.int .i64 0] 111)

theorem cells_W3 (w : World) : Cells3 w.heap.size (.string .empty) 0 0 (W3 w) := by
  have h1 := heap_alloc_new w (.cells #[.string .empty] 9)
  have h2 := heap_alloc_new (w.alloc (.cells #[.string .empty] 9)) (.cells #[.int .i64 0] 3)
  have h3 := heap_alloc_new ((w.alloc (.cells #[.string .empty] 9)).alloc (.cells #[.int .i64 0] 3)) (.cells #[.int .i64 0] 111)
  simp only [World.size_alloc] at h2 h3
  refine ⟨?_, ?_, h3⟩
  · exact (Below.heap_alloc _ _ _ (by simp; omega)).trans ((Below.heap_alloc _ _ _ (by simp)).trans h1)
  · exact (Below.heap_alloc _ _ _ (by simp)).trans h2
theorem below_W3 (w : World) : Below w.heap.size w (W3 w) := (((Below.refl _ w).alloc (Nat.le_refl _) _).alloc (by simp) _).alloc (by simp; omega) _
theorem size_W3 (w : World) : (W3 w).heap.size = w.heap.size + 3 := by simp [W3]

set_option maxHeartbeats 2000000 in
theorem decode_any (s : ByteArray) (w : World) (hs : s.size ≤ 140737488355327) :
    Calls Tryd.prog 77 #[.string s] w fun e w' => e = decEnd s.size (dec 0 s.data.toList) ∧ Below w.heap.size w w' := by
  have hmf : ∀ (fn : Fn) (first cap : Array Value) (w : World), (Instr.makeFunc fn first cap).run Tryd.prog w = .ok (.func fn first cap) w := fun _ _ _ _ => rfl
  obtain ⟨i0, hi, hz0, hz1, hz2⟩ := info_parts info_u8
  go_enter_defers Tryd.func77, Tryd.ntmps77
  go_wp2
  go_loopw [5, 6] (fun v i wr => ∃ (k : Nat) (bs : List UInt8), k ≤ s.size ∧ bs.length ≤ k ∧ i = .int .i64 k ∧ Below (w.heap.size + 3) (W3 w) wr ∧ wr.ownsRow (w.heap.size + 3) 5 1 v bs.length (bs.map u8) ∧ Hid (dec 0 s.data.toList = pre bs (dec k (s.data.toList.drop k)))) (fun _ i _ => s.size - (intOf i).toNat)
  case atStart => exact ⟨0, [], Nat.zero_le _, Nat.le_refl _, rfl, Below.refl _ _, World.ownsRow_nil _ _ _ _, hid (pre_nil _).symm⟩
  case round =>
    obtain ⟨k, bs, hk, hbl, rfl, hB, hown, HR⟩ := hrel
    have hcl := below_cells (cells_W3 w) hB
    have hBw : Below w.heap.size w wr := (below_W3 w).trans (hB.mono (by omega))
    have hsz : w.heap.size + 3 ≤ wr.heap.size := by have := hB.size; rw [size_W3] at this; exact this
    by_cases hlt : k < s.size
    · have cO := fun W => octet_any s k (by unfold maxLen; omega) hlt W
      cases ho : octL (s.data.toList.drop k) with
      | error e =>
        rw [ho] at cO
        change ∀ W, Calls _ _ _ W (fun e' w' => e' = .panicked [faultV e k] ∧ W = w') at cO
        have HD : Hid (dec 0 s.data.toList = .error (k, e)) := hid (by
          rw [HR.out, dec_error (fun h => by have := congrArg List.length h; rw [List.length_drop, len_toList] at this; simp at this; omega) ho]; rfl)
        clear ho HR
        go_wp2_with (go_at_call 88; (with_reducible refine (cO _).mono ?_); rintro e w' ⟨rfl, rfl⟩)
        refine leaves_cons (f := 87) (args := #[.pointer (some ⟨w.heap.size, 0, none⟩), .pointer (some ⟨w.heap.size + 1, 0, none⟩), .pointer (some ⟨w.heap.size + 2, 0, none⟩)]) (by simp) (by simp [go_sem]) ?_
        refine (fixed_panic w.heap.size _ _ _ k e [] _ hcl).mono ?_
        rintro e' u' w2 ⟨rfl, rfl, hc3, hb3⟩
        have c1 := cell_of_one hc3.1
        have c2 := cell_of_one hc3.2.1
        have c3 := cell_of_one hc3.2.2
        have HB := hid (hBw.trans hb3)
        clear hc3 hb3 hcl
        simp [Leaves, settle, results, Tryd.results77, go_sem, c1, c2, c3]
        exact ⟨by rw [HD.out]; rfl, HB.out⟩
      | ok p =>
        obtain ⟨b, j⟩ := p
        rw [ho] at cO
        change ∀ W, Calls _ _ _ W (fun e' w' => e' = .returned (.tuple #[.int .u8 b.toNat, .int .i64 j]) ∧ W = w') at cO
        have hj := octL_ok ho
        rw [List.length_drop, len_toList] at hj
        have HD : Hid (dec 0 s.data.toList = pre (bs ++ [b]) (dec (k + j) (s.data.toList.drop (k + j)))) := hid (by
          rw [HR.out, pre_ok bs ho, List.drop_drop])
        obtain ⟨-, hj1, hj2⟩ := hj
        clear ho HR
        go_wp2_with (first | (go_at_call 88; (with_reducible refine (cO _).mono ?_); rintro e w' ⟨rfl, rfl⟩) | (at_builtin; refine wpList_append_own _ rfl _ _ 63 rfl (w.heap.size + 3) 5 i0 (.int .u8 0) 1 1 Tryd.underlying63 hi hz0 hz1 hz2 rfl (by decide) _ _ _ rfl (hown.alloc _) ⟨wr.heap.size, 0, none⟩ 1 1 [.int .u8 b.toNat] rfl rfl ?c1 ?c2 ?c3 ?c4 ?c5 ?_))
        case c1 =>
          intro j u hj
          match j, hj with
          | 0, hj => simp at hj; subst hj; simp [Addr.add]
        case c2 => intro u hu; simp at hu; subst hu; rfl
        case c3 => unfold maxLen; omega
        case c4 => omega
        case c5 => simp; omega
        intro v' w3 hown' hg _
        have hB3 : Below (w.heap.size + 3) (W3 w) w3 := ((hB.alloc hsz _).grown hg (by simp; omega) (fun k hk => (hown.lt k hk).1))
        have ho3 := own_snoc hown'
        have HO := hid ho3
        clear hown' ho3 hg hown
        go_wp2
        go_roundw
        case rel => exact ⟨k + j, _, by omega, by simp; omega, by go_num, hB3, HO.out, HD⟩
        case measure => simp [intOf]; omega
    · obtain rfl : k = s.size := by omega
      have HD : Hid (dec 0 s.data.toList = .ok bs) := hid (by
        rw [HR.out, List.drop_of_length_le (by rw [len_toList]; exact Nat.le_refl _), dec_nil]; simp [pre])
      have hcv := conv_any hown
      have hst := hcl.stored (.string ⟨bs.toArray⟩) (s.size : Int) 0
      have hbb : Below w.heap.size w (((wr.setCell ⟨w.heap.size, 0, none⟩ (.string ⟨bs.toArray⟩)).setCell ⟨w.heap.size + 1, 0, none⟩ (.int .i64 s.size)).setCell ⟨w.heap.size + 2, 0, none⟩ (.int .i64 0)) :=
        ((hBw.setCell (Nat.le_refl _) _).setCell (Nat.le_add_right _ _) _).setCell (Nat.le_add_right _ _) _
      have a1 := cell_of_one hcl.1
      have a2 := cell_of_one hcl.2.1
      have a3 := cell_of_one hcl.2.2
      have f1 := free_of_one hcl.1
      have f2 := free_of_one hcl.2.1
      have f3 := free_of_one hcl.2.2
      have HS := hid hst
      have HB := hid hbb
      clear HR hlt hown hst hbb hcl hB hBw hsz
      go_wp2
      refine leaves_cons (f := 87) (args := #[.pointer (some ⟨w.heap.size, 0, none⟩), .pointer (some ⟨w.heap.size + 1, 0, none⟩), .pointer (some ⟨w.heap.size + 2, 0, none⟩)]) (by simp) (by simp [go_sem]) ?_
      refine (fixed_idle _ _ _ _).mono ?_
      rintro e' u' w2 ⟨rfl, rfl, rfl⟩
      have c1 := cell_of_one HS.out.1
      have c2 := cell_of_one HS.out.2.1
      have c3 := cell_of_one HS.out.2.2
      simp [Leaves, settle, results, Tryd.results77, go_sem, c1, c2, c3]
      exact ⟨by rw [HD.out]; rfl, HB.out⟩
end Ans
end Go.Proofs.YtfeedppodffheaaDoor
