/- The walk of GlobOwn: what Plain tells shares nothing with another telling. Conditions: a text of at most 2^20 octets. -/
import Derived.Test.YtcaenkffoilleaaGlobL
namespace Go.Proofs.Ytcaenkffoilleaa
open Go.RowKit
open Go.Lib (hid)

set_option maxHeartbeats 1000000 in
theorem refPlain_any (s : ByteArray) (q : Bool) (w : World) (hs : s.size ≤ 2097152) :
    Calls Try.prog 16 #[.string s, .bool q] w fun e w' => ∃ A cap, e = .returned (.slice A s.size cap) ∧ w'.ownsRow w.heap.size 29 2 (.slice A s.size cap) s.size (chCells (plainL q s.data.toList)) ∧ Below w.heap.size w w' := by
  obtain ⟨i0, hi, hz0, hz1, hz2⟩ := info_parts info_char
  have hpl : ∀ k, k ≤ s.size → (plainL q (s.data.toList.take k)).length = k := fun k hk => by unfold plainL; rw [List.length_map, List.length_take, len_toList]; omega
  go_enter Try.func16, Try.ntmps16
  go_wp2
  go_loopw [5, 6] (fun v i wr => ∃ k : Nat, k ≤ s.size ∧ i = .int .i64 k ∧ Below w.heap.size w wr ∧ wr.ownsRow w.heap.size 29 2 v k (chCells (plainL q (s.data.toList.take k)))) (fun _ i _ => s.size - (intOf i).toNat)
  case atStart => exact ⟨0, Nat.zero_le _, rfl, Below.refl _ _, World.ownsRow_nil _ _ _ _⟩
  case round =>
    obtain ⟨k, hk, rfl, hB, hown⟩ := hrel
    by_cases hlt : k < s.size
    · have HN : Hid (chCells (plainL q (s.data.toList.take (k + 1))) = chCells (plainL q (s.data.toList.take k)) ++ [.int .u8 s[k].toNat, .bool q]) := hid (by rw [take_snoc s k hlt]; simp [plainL, chCells])
      have HS := hB.size
      go_wp2_with (at_builtin; refine wpList_append_own _ rfl _ _ 23 rfl w.heap.size 29 i0 _ 2 2 Try.underlying23 hi hz0 hz1 hz2 rfl (by decide) _ _ _ rfl (hown.alloc _) ⟨wr.heap.size, 0, none⟩ 1 1 [.int .u8 s[k].toNat, .bool q] rfl rfl (World.news_of_block (cs := #[.int .u8 s[k].toNat, .bool q]) (t := 29) (fr := (0, 0)) (heap_alloc_new wr _)) (by simp [Value.oneCell']) ?c3 ?c4 ?c5 ?_)
      case c3 => unfold maxLen; omega
      case c4 => omega
      case c5 => simp; omega
      intro v' w3 hown' hg _
      have HB : Hid (Below w.heap.size w w3) := hid ((hB.alloc HS _).grown hg (by simp; omega) (fun j hj => (hown.lt j hj).1))
      rw [← HN.out] at hown'
      have HO := hid hown'
      clear hown' hg hown
      go_wp2_with fail
      go_roundw
      case rel => exact ⟨k + 1, by omega, by go_num, HB.out, HO.out⟩
      case measure => simp [intOf]; omega
    · obtain rfl : k = s.size := by omega
      rw [List.take_of_length_le (by rw [len_toList]; exact Nat.le_refl _)] at hown
      obtain ⟨A, cap, rfl⟩ : ∃ A cap, u5 = .slice A s.size cap := by
        rcases hown.2 with ⟨hv, h0⟩ | ⟨g, cap, cur, hv, _⟩
        · exact ⟨none, 0, by rw [hv, h0]⟩
        · exact ⟨_, cap, hv⟩
      have HO := hid hown
      clear hown
      go_wp2_with fail
      go_ret
      exact ⟨A, cap, rfl, HO.out, hB⟩

set_option maxHeartbeats 1000000 in
theorem sameChars_eq (A1 A2 : Option Addr) (c1 c2 n : Nat) (l : List Ch) (w : World) (hn : n = l.length) (hl : n ≤ 2097152) (h1 : CharsAt w A1 l) (h2 : CharsAt w A2 l) :
    Calls Try.prog 15 #[.slice A1 n c1, .slice A2 n c2] w fun e w' => e = .returned (.bool true) ∧ ∃ m, w' = w.drewN m := by
  subst hn
  go_enter Try.func15, Try.ntmps15
  go_wp2
  go_loopw [5] (fun i wr => ∃ (k m : Nat), k ≤ l.length ∧ i = .int .i64 k ∧ wr = w.drewN m) (fun i _ => l.length - (intOf i).toNat)
  case atStart => exact ⟨0, 0, Nat.zero_le _, rfl, rfl⟩
  case round =>
    obtain ⟨k, m, hk, rfl, rfl⟩ := hrel
    by_cases hlt : k < l.length
    · obtain ⟨g1, o1, rfl, p1, p2⟩ := h1 k hlt
      obtain ⟨g2, o2, rfl, q1, q2⟩ := h2 k hlt
      clear h1 h2
      go_wp2_with fail
      go_quiet (fail)
      go_wp2
      go_roundw
      case rel => exact ⟨k + 1, _, by omega, by go_num, rfl⟩
      case measure => simp [intOf]; omega
    · clear h1 h2
      go_wp2
      go_ret
      exact ⟨rfl, m, rfl⟩

set_option maxHeartbeats 1000000 in
theorem own_walk (s : ByteArray) (w : World) (hs : s.size ≤ 1048576) :
    Calls Try.prog 7 #[.string s] w fun e w' => e = .returned (.bool true) ∧ Below w.heap.size w w' := by
  have cP := fun W => plain_any s false W (by omega)
  have cR := fun W => refPlain_any s false W (by omega)
  have hpl : (plainL false s.data.toList).length = s.size := by simp [plainL]
  go_enter Try.func7, Try.ntmps7
  go_wp2_with (first
    | (go_at_call 11; (with_reducible refine (alive_any _).mono ?_); rintro e w1 ⟨rfl, hb1⟩)
    | (go_at_call 9; first | (with_reducible refine (cP w1).mono ?_; rintro e w2 ⟨rfl, ho2, hb2⟩) | (with_reducible refine (cP w2).mono ?_; rintro e w3 ⟨rfl, ho3, hb3⟩)))
  have hw12 : w1.heap.size < w2.heap.size := (ho2.lt _ rfl).2
  have ho2' := own_below ho2 hb3
  have hB3 : Below w.heap.size w w3 := hb1.trans ((hb2.trans (hb3.mono hb2.size)).mono hb1.size)
  have h1N := hb1.size
  clear hb1 hb2 hb3 ho2
  go_loopw [5] (fun i wr => ∃ (k : Nat) (ys : List Value), k ≤ s.size ∧ i = .int .i64 k ∧ wr.ownsRow w1.heap.size 29 2 (.slice (some ⟨w1.heap.size, 0, none⟩) s.size s.size) s.size ys ∧ w3.grownBy wr (some w1.heap.size)) (fun i _ => s.size - (intOf i).toNat)
  case atStart => exact ⟨0, _, Nat.zero_le _, rfl, ho2', World.grownBy.refl _ _⟩
  case round =>
    obtain ⟨k, ys, hk, rfl, hown, hg⟩ := hrel
    clear ho2'
    by_cases hlt : k < s.size
    · have hyl := hown.1
      have t1 := hown.stored (k * 2) (.int .u8 7)
      have t2 := t1.1.stored (k * 2 + 1) (.bool false)
      have c1 := hown.cellAt (k * 2) (by omega)
      have c2 := hown.cellAt (k * 2 + 1) (by omega)
      rw [List.getElem?_eq_getElem (by omega)] at c1 c2
      have f1 := hown.frozenAt (k * 2)
      have f2 := hown.frozenAt (k * 2 + 1)
      have HO := hid t2.1
      have HG := hid (hg.trans (t1.2.trans t2.2))
      clear t1 t2 hown hg ho3
      go_wp2
      go_roundw
      case rel => exact ⟨k + 1, _, by omega, by go_num, HO.out, HG.out⟩
      case measure => simp [intOf]; omega
    · have hb := ho3.kept hg (.inr (by simp [Value.ownBlock]; omega))
      have HB : Hid (Below w.heap.size w wr) := hid (hB3.grown hg hB3.size (fun j e => by cases e; exact h1N))
      have cS := fun (W : World) (A : Option Addr) (cap : Nat) (hW : Below wr.heap.size wr W) (hr : W.ownsRow wr.heap.size 29 2 (.slice A s.size cap) s.size (chCells (plainL false s.data.toList))) =>
        sameChars_eq (some ⟨w2.heap.size, 0, none⟩) A s.size cap s.size (plainL false s.data.toList) W hpl.symm (by omega) (CharsAt.of_own (own_below hb hW)) (CharsAt.of_own hr)
      clear hown hg ho3 hb
      go_wp2_with (first
        | (go_at_call 16; refine (cR _).mono ?_; rintro e w4 ⟨A, cap, rfl, ho4, hb4⟩)
        | (go_at_call 15; refine (cS _ _ _ hb4 ho4).mono ?_; rintro e w5 ⟨rfl, m5, rfl⟩))
      go_ret
      exact ⟨rfl, below_drewN (HB.out.trans (hb4.mono HB.out.size)) _⟩

theorem small_one {H : Type} {s : ByteArray} (hk : Rows.uptoSmall H [.lit (.string s.data.toList)] = true) : s.size ≤ 1048576 := by
  have h : Rows.uptoBulkAll [DataW.lit (H := H) (.string s.data.toList)] ≤ 1048576 := of_decide_eq_true hk
  simp only [Rows.uptoBulkAll, Rows.uptoBulk] at h
  rw [len_toList] at h
  omega
theorem own_upto {H : Type} (s : ByteArray) (w : World) (_hs : s.size ≤ 140737488351232) (hk : Rows.uptoSmall H [.lit (.string s.data.toList)] = true) :
    Calls Try.prog 7 #[.string s] w fun e w' => e = .returned (.bool true) ∧ Below w.heap.size w w' := own_walk s w (small_one hk)
end Go.Proofs.Ytcaenkffoilleaa
