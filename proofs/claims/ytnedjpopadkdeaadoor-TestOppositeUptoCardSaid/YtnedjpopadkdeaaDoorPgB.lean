
/- Contracts: bytes.LastIndexByte at a slash, tree.size, where's closure, sort.Search over it, tree.where, tree.kindOf. Conditions: sizes; a tree in order. -/
import Derived.Test.YtnedjpopadkdeaaDoorPgA
import Derived.Deep.QuietTactic
import Derived.BigQuiet
import Derived.IntWalk
namespace Go.Proofs.YtnedjpopadkdeaaDoor
open Go.RowKit
open Go.Lib (hid)

/-- The slice at A holds these octets. -/
def Octs (w : World) (A : Option Addr) (l : List UInt8) : Prop := ∀ k (h : k < l.length), ∃ g o, A = some ⟨g, o, none⟩ ∧ w.cell? ⟨g, o + k, none⟩ = some (u8 l[k])
theorem Octs.of_own {w : World} {N n c : Nat} {A : Option Addr} {l : List UInt8} (h : w.ownsRow N 5 1 (.slice A n c) n (l.map u8)) : Octs w A l := fun k hk => by
  have hn : l.length = n := by have := h.1; simpa using this
  rcases h.2 with ⟨h0, h1⟩ | ⟨g, cap, cur, hv, hN, hcur, _⟩
  · omega
  · cases hv
    refine ⟨g, 0, rfl, ?_⟩
    have := h.cells (g := g) rfl k (u8 l[k]) (by simp [hk])
    rw [add_at] at this
    simpa using this

set_option maxHeartbeats 1000000 in
theorem lastB_any (A : Option Addr) (c : Nat) (l : List UInt8) (w : World) (hT : Octs w A l) (hl : l.length ≤ 1099511627776) :
    Calls Tryd.prog 82 #[.slice A l.length c, .int .u8 47] w fun e w' => e = .returned (.int .i64 (lastS l)) ∧ w = w' := by
  go_enter Tryd.func82, Tryd.ntmps82
  go_wp2
  go_loop [5] (fun i => ∃ k : Nat, k ≤ l.length ∧ i = .int .i64 ((k : Int) - 1) ∧ Hid (lastS l = Lib.lastIdx ⟨l.toArray⟩ 47 k)) (fun i => (intOf i + 1).toNat)
  case atStart => exact ⟨l.length, Nat.le_refl _, by first | rfl | go_num, hid (by unfold lastS Lib.lastIndexByte; rw [mk_size])⟩
  case round =>
    obtain ⟨k, hk, rfl, HL⟩ := hrel
    by_cases hlt : 0 < k
    · obtain ⟨m, rfl⟩ : ∃ m, k = m + 1 := ⟨k - 1, by omega⟩
      have hz : (((m + 1 : Nat) : Int) - 1) = (m : Int) := by omega
      rw [hz]
      obtain ⟨g, o, rfl, hc⟩ := hT m (by omega)
      unfold u8 at hc
      have hat := last_at l m (by omega)
      by_cases h47 : l[m] = 47
      · have q1 : ((l[m].toNat : Int) == 47) = true := by rw [h47]; rfl
        have HR : Hid (lastS l = m) := hid (by rw [HL.out]; exact Lib.lastIdx_hit _ _ _ (by rw [hat, h47]; rfl))
        clear hT hat h47 HL hz
        go_wp2
        go_ret
        exact ⟨by rw [HR.out]; rfl, rfl⟩
      · have q1 : ((l[m].toNat : Int) == 47) = false := u8_ne (n := 47) h47
        have HR : Hid (lastS l = Lib.lastIdx ⟨l.toArray⟩ 47 m) := hid (by rw [HL.out]; exact Lib.lastIdx_miss _ _ _ (by rw [hat]; exact fun e => h47 (u8_cast.1 e)))
        clear hT hat h47 HL hz
        go_wp2
        go_round
        case rel => exact ⟨m, by omega, by first | rfl | go_num, HR⟩
        case measure => simp [intOf]
    · obtain rfl : k = 0 := by omega
      have HR : Hid (lastS l = -1) := hid (by rw [HL.out]; rfl)
      clear hT HL
      go_wp2
      go_ret
      exact ⟨by rw [HR.out]; rfl, rfl⟩
set_option maxHeartbeats 1000000 in
theorem bytesLast_any (A : Option Addr) (c : Nat) (l : List UInt8) (w : World) (hT : Octs w A l) (hl : l.length ≤ 1099511627776) :
    Calls Tryd.prog 67 #[.slice A l.length c, .int .u8 47] w fun e w' => e = .returned (.int .i64 (lastS l)) ∧ w = w' := by
  have cL := lastB_any A c l w hT hl
  clear hT
  go_enter Tryd.func67, Tryd.ntmps67
  go_wp2_with fail
  refine cL.mono ?_
  rintro e w' ⟨rfl, rfl⟩
  go_wp2_with fail
  go_ret
  exact ⟨rfl, rfl⟩

set_option maxHeartbeats 2000000 in
theorem size_any (A : Option Addr) (c : Nat) (t : List ND) (w : World) (hT : NodesP w (fun _ => True) A t) (hl : t.length ≤ 256) (hz : SizeT t) :
    Calls Tryd.prog 62 #[.slice A t.length c] w fun e w' => e = .returned (.int .i64 (sumX t)) ∧ Below w.heap.size w w' := by
  go_enter Tryd.func62, Tryd.ntmps62
  go_wp2
  go_loopw [3, 8] (fun s i wr => ∃ (k n : Nat), k ≤ t.length ∧ i = .int .i64 k ∧ s = .int .i64 n ∧ n ≤ k * 274877906944 ∧ Hid (n = sumX (t.take k)) ∧ Below w.heap.size w wr) (fun _ i _ => t.length - (intOf i).toNat)
  case atStart => exact ⟨0, 0, Nat.zero_le _, rfl, rfl, by omega, hid rfl, Below.refl _ _⟩
  case round =>
    obtain ⟨k, n, hk, rfl, rfl, hn, HN, hB⟩ := hrel
    by_cases hlt : k < t.length
    · obtain ⟨g, o, rfl, -, c0, c1, c2⟩ := hT.below hB k hlt
      have hx := (hz _ (List.getElem_mem hlt)).2
      have HS := hid (sumX_take t k hlt)
      rw [← HN.out] at HS
      have HB := hid hB
      have hs0 := hB.size
      obtain ⟨y, hy⟩ : ∃ y, t[k] = y := ⟨_, rfl⟩
      rw [hy] at c0 c1 c2 hx HS
      obtain ⟨p, d, x⟩ := y
      simp only at c0 c1 c2 hx
      have hsz := mk_size x
      clear hT hz hB hy
      go_wp2
      go_roundw
      case rel => exact ⟨k + 1, n + x.length, by omega, by go_num, by first | go_num | (congr 1; simp), by omega, hid HS.out.symm, HB.out.alloc hs0 _⟩
      case measure => simp [intOf]; omega
    · obtain rfl : k = t.length := by omega
      have HR : Hid (sumX t = n) := hid (by rw [HN.out, List.take_length])
      clear hT hz HN
      go_wp2
      go_ret
      exact ⟨by rw [HR.out]; rfl, hB⟩
end Go.Proofs.YtnedjpopadkdeaaDoor
