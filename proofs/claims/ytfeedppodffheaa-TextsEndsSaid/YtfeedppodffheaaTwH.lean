/- texts.Rev; what the laws of texts ask of the program's calls; their walks at the forms' bounds. Conditions: sizes. -/
import Derived.Test.YtfeedppodffheaaTwA
import Derived.Test.YtfeedppodffheaaTwB
import Derived.Test.YtfeedppodffheaaTwF
import Derived.Test.YtfeedppodffheaaTwG
import Derived.Test.YtfeedppodffheaaRev11
import Derived.Test.YtfeedppodffheaaSwaps11
import Derived.Test.YtfeedppodffheaaLiftT
namespace Go.Proofs.Ytfeedppodffheaa
open Go.RowKit
open Go.Lib (hid)

set_option linter.unusedSimpArgs false in
set_option maxHeartbeats 1000000 in
theorem revText_any (s : List UInt8) (w : World) (hs : s.length ≤ 1099511627776) :
    Calls Try.prog 11 #[encS s] w fun e w' => e = .returned (encS (revT s)) ∧ Below w.heap.size w w' := by
  have cL := oLines_any ⟨s.toArray⟩ w (by rw [mk_len]; exact hs)
  have hrl := rev_len s
  obtain ⟨hll, hxl⟩ := lines_len _ s (Nat.le_refl _)
  have HU := hid (show revT s = joinE ((linesL s).map List.reverse) from rfl)
  rw [show (⟨s.toArray⟩ : ByteArray).data.toList = s from rfl] at cL
  have cT := fun A c W h => told_any 23 (enters_of Try.func23 (by kernel_rfl) rfl) List.reverse A c (linesL s) W h (by omega) (by rw [← HU.out]; omega) (fun x hx W => turned_fn x W (by have := hxl x hx; omega))
  rw [← HU.out] at cT
  generalize linesL s = L at *
  clear hrl hll hxl HU
  go_enter Try.func11, Try.ntmps11
  go_wp2_with fail
  refine cL.mono ?_
  rintro e w1 ⟨A, c, rfl, hown, hb1⟩
  have HB1 := hid hb1
  have cT := cT A c w1 (TextsP.of_own (ls := L) hown).any
  clear cL hb1 hown
  go_wp2_with fail
  refine cT.mono ?_
  rintro e w2 ⟨rfl, hb2⟩
  have HB2 := hid (HB1.out.trans (hb2.mono HB1.out.size))
  clear cT hb2
  go_wp2_with fail
  go_ret
  exact ⟨rfl, HB2.out⟩

theorem head_ok : HeadOk 140737488351232 := fun s n W hs h0 h1 => head_any s n W (by omega) h0 h1
theorem tail_ok : TailOk 140737488351232 := fun s n W hs h0 h1 => tail_any s n W (by omega) h0 h1
theorem count_ok : CountOk (140737488351232 + 140737488351232 + 1) := fun s W hs => count_any s W (by omega)
theorem set_ok : SetOk 1048577 := fun s W hs => set_any s W (by omega)
theorem trans_ok : TransOk 1048577 := fun s x y W hs hx hy => translate_any s x y W (by omega) (by omega) (by omega)
theorem del_ok : DelOk 1048577 := fun s x W hs hx => delete_any s x W (by omega) (by omega)
theorem rev_ok : RevOk (1048576 + 1) := fun s W hs => revText_any s W (by omega)

theorem ends_full (s : ByteArray) (n : Int) (w : World) (hs : s.size ≤ 140737488351232) (_ : (Lit.int .i64 n).wf = true) :
    Calls Try.prog 3 #[.string s, .int .i64 n] w fun e w' => e = .returned (.bool true) ∧ Below w.heap.size w w' :=
  ends_walk trans_ok (by omega) (by omega) head_ok tail_ok count_le (by omega) s.data.toList n w (by rw [len_toList]; exact hs)
where count_le : CountOk 140737488351232 := fun s W hs => count_any s W (by omega)
theorem count_full (a b : ByteArray) (w : World) (ha : a.size ≤ 140737488351232) (hb : b.size ≤ 140737488351232) :
    Calls Try.prog 6 #[.string a, .string b] w fun e w' => e = .returned (.bool true) ∧ Below w.heap.size w w' :=
  count_walk trans_ok head_ok (by omega) (by omega) count_ok (by omega) a.data.toList b.data.toList w (by rw [len_toList]; exact ha) (by rw [len_toList]; exact hb)
theorem rev_upto {H : Type} (s : ByteArray) (w : World) (_ : s.size ≤ 140737488351232) (hk : Rows.uptoSmall H [.lit (.string s.data.toList)] = true) :
    Calls Try.prog 4 #[.string s] w fun e w' => e = .returned (.bool true) ∧ Below w.heap.size w w' :=
  rev_walk trans_ok head_ok (by omega) (by omega) rev_ok (by omega) s.data.toList w (text_le (by simp) hk)
theorem swaps_upto {H : Type} (s x : ByteArray) (w : World) (_ : s.size ≤ 140737488351232) (_ : x.size ≤ 140737488351232) (hk : Rows.uptoSmall H [.lit (.string s.data.toList), .lit (.string x.data.toList)] = true) :
    Calls Try.prog 5 #[.string s, .string x] w fun e w' => e = .returned (.bool true) ∧ Below w.heap.size w w' :=
  swaps_walk head_ok (by omega) (by omega) trans_ok del_ok set_ok (by omega) s.data.toList x.data.toList w (by have := text_le (s := s) (by simp) hk; omega) (by have := text_le (s := x) (by simp) hk; omega)
end Go.Proofs.Ytfeedppodffheaa
