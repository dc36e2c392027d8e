
/- Contracts of ansi.octet and of Decode's deferred closure. No conditions but the size of a string. -/
import Derived.Test.YtfeedppodffheaaDoorAoB
import Derived.Defers
import Derived.Recover
import Derived.Laws.Pointers
import Derived.RegionTactic
import Derived.BigRegion
namespace Go.Proofs.YtfeedppodffheaaDoor
namespace Ans
open Go.RowKit
open Go.Lib (hid)

def octEnd (at_ : Nat) : Except Int (UInt8 × Nat) → Ending
  | .ok (c, k) => .returned (.tuple #[.int .u8 c.toNat, .int .i64 k])
  | .error e => .panicked [faultV e at_]

set_option maxHeartbeats 1000000 in
theorem octet_any (s : ByteArray) (k : Nat) (hs : s.size ≤ maxLen) (hk : k < s.size) (w : World) :
    Calls Tryd.prog 88 #[.string s, .int .i64 k] w fun e w' => e = octEnd k (octL (s.data.toList.drop k)) ∧ w = w' := by
  have cE := fun W => escaped_any (k : Int) (s.extract (k + 1) s.size) (by rw [extract_size]; omega) W
  rw [extract_from] at cE
  unfold maxLen at hs
  have HE : Hid (octL (s.data.toList.drop k) = octL (s[k] :: s.data.toList.drop (k + 1))) := hid (by rw [List.drop_eq_getElem_cons (by simpa using hk)]; rfl)
  by_cases h1 : s[k] = 92
  · have g1 : ((s[k].toNat : Int) == 92) = true := by rw [h1]; rfl
    cases he : escL (s.data.toList.drop (k + 1)) with
    | none =>
      rw [he] at cE
      change ∀ W, Calls _ _ _ W (fun e w' => e = .panicked [faultV 33 k] ∧ W = w') at cE
      have HV : Hid (octL (s.data.toList.drop k) = .error 33) := hid (by rw [HE.out, octL_cons, if_pos h1, he])
      clear h1 he HE
      go_enter Tryd.func88, Tryd.ntmps88
      go_wp2_with (go_at_call 93; (with_reducible refine (cE _).mono ?_); rintro e w' ⟨rfl, rfl⟩)
      exact ⟨rfl, by rw [HV.out]; rfl, rfl⟩
    | some p =>
      obtain ⟨b, j⟩ := p
      have h2 := escL_some he
      rw [List.length_drop, len_toList] at h2
      rw [he] at cE
      change ∀ W, Calls _ _ _ W (fun e w' => e = .returned (.tuple #[.int .u8 b.toNat, .int .i64 j]) ∧ W = w') at cE
      have HV : Hid (octL (s.data.toList.drop k) = .ok (b, 1 + j)) := hid (by rw [HE.out, octL_cons, if_pos h1, he])
      have hj1 := h2.2.2
      clear h1 he HE h2
      go_enter Tryd.func88, Tryd.ntmps88
      go_wp2_with (go_at_call 93; (with_reducible refine (cE _).mono ?_); rintro e w' ⟨rfl, rfl⟩)
      go_ret2
      exact ⟨by rw [HV.out]; exact ret_two rfl (by simp), rfl⟩
  · have g1 : ((s[k].toNat : Int) == 92) = false := u8_ne (n := 92) h1
    by_cases h2 : s[k] = 0
    · have g2 : ((s[k].toNat : Int) == 0) = true := by rw [h2]; rfl
      have HV : Hid (octL (s.data.toList.drop k) = .error 61) := hid (by rw [HE.out, octL_cons, if_neg h1, if_pos (.inl h2)])
      clear h1 h2 HE cE
      go_enter Tryd.func88, Tryd.ntmps88
      go_wp2
      exact ⟨rfl, by rw [HV.out]; rfl, rfl⟩
    · have g2 : ((s[k].toNat : Int) == 0) = false := u8_ne (n := 0) h2
      by_cases h3 : s[k] = 39
      · have g3 : ((s[k].toNat : Int) == 39) = true := by rw [h3]; rfl
        have HV : Hid (octL (s.data.toList.drop k) = .error 61) := hid (by rw [HE.out, octL_cons, if_neg h1, if_pos (.inr h3)])
        clear h1 h2 h3 HE cE
        go_enter Tryd.func88, Tryd.ntmps88
        go_wp2
        exact ⟨rfl, by rw [HV.out]; rfl, rfl⟩
      · have g3 : ((s[k].toNat : Int) == 39) = false := u8_ne (n := 39) h3
        have HV : Hid (octL (s.data.toList.drop k) = .ok (s[k], 1)) := hid (by rw [HE.out, octL_cons, if_neg h1, if_neg (fun e => e.elim h2 h3)])
        clear h1 h2 h3 HE cE
        go_enter Tryd.func88, Tryd.ntmps88
        go_wp2
        go_ret2
        exact ⟨by rw [HV.out]; rfl, rfl⟩

/-- The three cells of Decode's named results. -/
def Cells3 (B : Nat) (s : Value) (n e : Int) (w : World) : Prop :=
  w.heap[B]? = some (.cells #[s] 9 (0, 0)) ∧ w.heap[B + 1]? = some (.cells #[.int .i64 n] 3 (0, 0)) ∧ w.heap[B + 2]? = some (.cells #[.int .i64 e] 111 (0, 0))

theorem run_assert_fault (v : Value) (w : World) : (Instr.typeAssert (.iface 121 v) 20 121 false).run Tryd.prog w = .ok v w := by
  simp [Instr.typeAssert, run_underlying Tryd.underlying121, go_sem, Result.andThen]

theorem fixed_idle (a b c : Addr) (w : World) :
    CallsD Tryd.prog 87 #[.pointer (some a), .pointer (some b), .pointer (some c)] .returning w fun e u' w' => e = .returned (.tuple #[]) ∧ u' = .returning ∧ w' = w := by
  refine callsD_of_wpS Tryd.func87 rfl fun c₀ cs hu => ?_
  apply wpS_seq
  apply wpS_region
  simp [wpOpsS, go_sem, recoverD, hu, Tryd.ntmps87, Exit.thenS]
  refine wpS_of_wp ?_
  go_wp2
  cases c₀
  simp_all [bodyPostS, results, Tryd.results87]

theorem heap_set {w : World} {b c : Nat} (h : c ≠ b) (v : Value) : (w.setCell ⟨b, 0, none⟩ v).heap[c]? = w.heap[c]? := Below.heap_setCell _ _ _ _ h

theorem Cells3.stored {B : Nat} {s : Value} {n0 e0 : Int} {w : World} (h : Cells3 B s n0 e0 w) (s' : Value) (n e : Int) :
    Cells3 B s' n e (((w.setCell ⟨B, 0, none⟩ s').setCell ⟨B + 1, 0, none⟩ (.int .i64 n)).setCell ⟨B + 2, 0, none⟩ (.int .i64 e)) := by
  obtain ⟨h1, h2, h3⟩ := h
  refine ⟨?_, ?_, ?_⟩
  · rw [heap_set (by omega), heap_set (by omega)]; exact one_setCell h1
  · rw [heap_set (by omega)]; exact one_setCell ((heap_set (by omega) _).trans h2)
  · exact one_setCell ((heap_set (by omega) _).trans ((heap_set (by omega) _).trans h3))

set_option maxHeartbeats 1000000 in
theorem fixed_panic (B : Nat) (s : Value) (n0 e0 : Int) (n e : Int) (older : List PanicEntry) (w : World) (h : Cells3 B s n0 e0 w) :
    CallsD Tryd.prog 87 #[.pointer (some ⟨B, 0, none⟩), .pointer (some ⟨B + 1, 0, none⟩), .pointer (some ⟨B + 2, 0, none⟩)] (.panicking (faultV e n :: older)) w fun e' u' w' =>
      e' = .returned (.tuple #[]) ∧ u' = .panicking ({ faultV e n with recovered := true } :: older) ∧ Cells3 B (.string .empty) n e w' ∧ Below B w w' := by
  have hta := run_assert_fault
  refine callsD_of_wpS Tryd.func87 rfl fun c₀ cs hu => ?_
  apply wpS_seq
  apply wpS_region
  simp [wpOpsS, go_sem, recoverD, hu, Tryd.ntmps87, Exit.thenS, faultV]
  refine wpS_of_wp ?_
  change Code.wp _ _ _ ⟨#[.pointer (some ⟨B, 0, none⟩), .pointer (some ⟨B + 1, 0, none⟩), .pointer (some ⟨B + 2, 0, none⟩), .iface 121 (.agg #[.int .i64 e, .int .i64 n]), undef, .iface 121 (.agg #[.int .i64 e, .int .i64 n]), undef, undef, undef, undef, undef, undef, undef, undef], []⟩ _
  go_wp2
  have hB2 : B + 2 < w.heap.size := lt_of_block h.2.2
  have h' : Cells3 B s n0 e0 (w.alloc (.cells #[.int .i64 e, .int .i64 n] 121)) :=
    ⟨(Below.heap_alloc w _ B (by omega)).trans h.1, (Below.heap_alloc w _ (B + 1) (by omega)).trans h.2.1, (Below.heap_alloc w _ (B + 2) (by omega)).trans h.2.2⟩
  have hn : (w.alloc (.cells #[.int .i64 e, .int .i64 n] 121)).heap[w.heap.size]? = some (.cells #[.int .i64 e, .int .i64 n] 121 (0, 0)) := heap_alloc_new w _
  have hbl : Below B w (w.alloc (.cells #[.int .i64 e, .int .i64 n] 121)) := (Below.refl B w).alloc (by omega) _
  have HX : Hid (Cells3 B s n0 e0 (w.alloc (.cells #[.int .i64 e, .int .i64 n] 121)) ∧ Below B w (w.alloc (.cells #[.int .i64 e, .int .i64 n] 121))) := hid ⟨h', hbl⟩
  generalize w.alloc (.cells #[.int .i64 e, .int .i64 n] 121) = w2 at *
  have a1 := cell_of_one h'.1
  have a2 := cell_of_one h'.2.1
  have a3 := cell_of_one h'.2.2
  have f1 := free_of_one h'.1
  have f2 := free_of_one h'.2.1
  have f3 := free_of_one h'.2.2
  have b0 : w2.cell? ⟨w.heap.size, 0, none⟩ = some (.int .i64 e) := by simp [World.cell?, hn]
  have b1 : w2.cell? ⟨w.heap.size, 1, none⟩ = some (.int .i64 n) := by simp [World.cell?, hn]
  obtain ⟨N, hN⟩ : ∃ N, w.heap.size = N := ⟨_, rfl⟩
  rw [hN] at hB2 b0 b1 ⊢
  have hne1 : B ≠ N := by omega
  have hne2 : B + 1 ≠ N := by omega
  have hne3 : B + 2 ≠ N := by omega
  clear h h' hn hbl
  go_region
  have hst : Cells3 B (.string .empty) n e (((w2.setCell ⟨B, 0, none⟩ (.string ⟨#[]⟩)).setCell ⟨B + 1, 0, none⟩ (.int .i64 n)).setCell ⟨B + 2, 0, none⟩ (.int .i64 e)).drew := HX.out.1.stored _ _ _
  have hbb : Below B w (((w2.setCell ⟨B, 0, none⟩ (.string ⟨#[]⟩)).setCell ⟨B + 1, 0, none⟩ (.int .i64 n)).setCell ⟨B + 2, 0, none⟩ (.int .i64 e)).drew :=
    (((HX.out.2.setCell (Nat.le_refl _) _).setCell (Nat.le_add_right _ _) _).setCell (Nat.le_add_right _ _) _).drew
  generalize (((w2.setCell ⟨B, 0, none⟩ (.string ⟨#[]⟩)).setCell ⟨B + 1, 0, none⟩ (.int .i64 n)).setCell ⟨B + 2, 0, none⟩ (.int .i64 e)).drew = w3 at *
  change bodyPostS _ _ _ _ _ _ _ _ _
  cases c₀
  simp [bodyPostS, results, Tryd.results87]
  exact ⟨hst, hbb⟩
end Ans
end Go.Proofs.YtfeedppodffheaaDoor
