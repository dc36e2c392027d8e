/- The program's each over octets, with any method value; a piece cut by the cutter. Conditions: sizes. -/
import Derived.Test.YtchnopfnjkbelaaDoorFlE
import Derived.Shelf.Abstract
namespace Go.Proofs.YtchnopfnjkbelaaDoor
open Go.RowKit
open Go.Lib (hid)

set_option maxRecDepth 100000 in
set_option maxHeartbeats 4000000 in
/-- each: whatever I says of the number of octets done and of the world. -/
theorem eachC_any (g : Nat) (r : Value) (eg : ∀ args w, (callFunc g args).run Tryd.prog w = .ok (.enter g args) w) (I : Nat → World → Prop) (A : Option Addr) (c : Nat) (l : List Oc) (w : World) (hl : l.length ≤ 1099511627776) (h0 : I 0 w)
    (hA : ∀ (k : Nat) (W : World), I k W → OcsP W (fun _ => True) A l) (hB : ∀ (k : Nat) (W W' : World), I k W → Below W.heap.size W W' → I k W')
    (hp : ∀ (k : Nat) (h : k < l.length) (W : World), I k W → Calls Tryd.prog g #[r, ocV l[k]] W fun e W' => e = .returned (.tuple #[]) ∧ I (k + 1) W') :
    Calls Tryd.prog 24 #[.slice A l.length c, .func (.func g) #[r] #[]] w fun e w' => e = .returned (.tuple #[]) ∧ I l.length w' := by
  go_enter Tryd.func24, Tryd.ntmps24
  go_wp2
  go_loopw [8] (fun i wr => ∃ k : Nat, k ≤ l.length ∧ i = .int .i64 k ∧ I k wr) (fun i _ => l.length - (intOf i).toNat)
  case atStart => exact ⟨0, Nat.zero_le _, rfl, h0⟩
  case round =>
    obtain ⟨k, hk, rfl, hI⟩ := hrel
    by_cases hlt : k < l.length
    · obtain ⟨gA, oA, rfl, -, a0, a1⟩ := hA k wr hI k hlt
      obtain ⟨W2, hW2⟩ : ∃ W2, wr.alloc (.cells #[.int .u8 l[k].1.toNat, .bool l[k].2] 50) = W2 := ⟨_, rfl⟩
      have hb2 : Below wr.heap.size wr W2 := by rw [← hW2]; exact (Below.refl _ _).alloc (Nat.le_refl _) _
      have hbx : W2.heap[wr.heap.size]? = some (.cells #[.int .u8 l[k].1.toNat, .bool l[k].2] 50 (0, 0)) := by rw [← hW2]; exact heap_alloc_new _ _
      have x0 : W2.cell? ⟨wr.heap.size, 0, none⟩ = some (.int .u8 l[k].1.toNat) := by simp [World.cell?, hbx]
      have x1 : W2.cell? ⟨wr.heap.size, 1, none⟩ = some (.bool l[k].2) := by simp [World.cell?, hbx]
      have y0 : W2.frozen? ⟨wr.heap.size, 0, none⟩ = false := by simp [World.frozen?, hbx]
      have y1 : W2.frozen? ⟨wr.heap.size, 1, none⟩ = false := by simp [World.frozen?, hbx]
      have cS := hp k hlt W2 (hB k wr W2 hI hb2)
      unfold ocV at cS
      have HK := hid (show k + 1 ≤ l.length by omega)
      generalize l[k] = oc at *
      obtain ⟨x, q⟩ := oc
      simp only at *
      clear hp h0 hA hB hI hbx hb2
      go_wp2_with (go_at_fn g; (with_reducible refine cS.mono ?_); rintro e W' ⟨rfl, hI'⟩)
      go_roundw
      case rel => exact ⟨k + 1, HK.out, by go_num, hI'⟩
      case measure => simp [intOf]; omega
    · obtain rfl : k = l.length := by omega
      clear hp h0 hA hB
      go_wp2
      go_end0
      exact ⟨rfl, hI⟩
end Go.Proofs.YtchnopfnjkbelaaDoor
