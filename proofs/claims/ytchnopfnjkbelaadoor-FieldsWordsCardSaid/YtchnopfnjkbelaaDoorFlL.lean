/- cowrielaw08's alive. No conditions. -/
import Derived.Test.YtchnopfnjkbelaaDoorFlT
namespace Go.Proofs.YtchnopfnjkbelaaDoor
open Go.RowKit
open Go.Lib (hid)

def alivePc : Pc := ⟨[(97, false), (32, false), (98, false)], true, false, false⟩
theorem alive_math : fieldsL [alivePc] [32] = [[(97, false)], [(98, false)]] := by decide
def aliveW (w : World) : World := (w.alloc (.cells #[.int .u8 97, .bool false, .int .u8 32, .bool false, .int .u8 98, .bool false] 50)).alloc (.cells #[.slice (some ⟨w.heap.size, 0, none⟩) 3 3, .bool true, .bool false, .bool false] 45)
theorem alive_pcs (w : World) : PcsP (aliveW w) (fun _ => True) (fun _ => True) (some ⟨w.heap.size + 1, 0, none⟩) [alivePc] := fun k hk => by
  have h1 : (aliveW w).heap[w.heap.size + 1]? = some (.cells #[.slice (some ⟨w.heap.size, 0, none⟩) 3 3, .bool true, .bool false, .bool false] 45 (0, 0)) := heap_alloc2_new _ _ _
  have h2 : (aliveW w).heap[w.heap.size]? = some (.cells #[.int .u8 97, .bool false, .int .u8 32, .bool false, .int .u8 98, .bool false] 50 (0, 0)) := heap_alloc2_old _ _ _
  obtain rfl : k = 0 := by simp at hk; exact hk
  refine ⟨w.heap.size + 1, 0, some ⟨w.heap.size, 0, none⟩, 3, rfl, trivial, ?_, ?_, ?_, ?_, Nat.le_refl _, fun j hj => ?_⟩
  · simp [World.cell?, h1, alivePc]
  · simp [World.cell?, h1, alivePc]
  · simp [World.cell?, h1, alivePc]
  · simp [World.cell?, h1, alivePc]
  · have hj3 : j < 3 := hj
    refine ⟨w.heap.size, 0, rfl, trivial, ?_, ?_⟩
    · match j, hj3 with
      | 0, _ => simp [World.cell?, h2, alivePc]
      | 1, _ => simp [World.cell?, h2, alivePc]
      | 2, _ => simp [World.cell?, h2, alivePc]
    · match j, hj3 with
      | 0, _ => simp [World.cell?, h2, alivePc]
      | 1, _ => simp [World.cell?, h2, alivePc]
      | 2, _ => simp [World.cell?, h2, alivePc]

set_option maxRecDepth 100000 in
set_option maxHeartbeats 4000000 in
theorem alive_any (w : World) : Calls Tryd.prog 16 #[] w fun e w' => e = .returned (.bool true) ∧ Below w.heap.size w w' := by
  have cF := fields_any (some ⟨w.heap.size + 1, 0, none⟩) 1 [alivePc] [32] (aliveW w) (alive_pcs w) (by decide) (by decide)
  rw [alive_math] at cF
  have hb0 : Below w.heap.size w (aliveW w) := ((Below.refl _ _).alloc (Nat.le_refl _) _).alloc (by simp) _
  unfold aliveW at cF hb0
  go_enter Tryd.func16, Tryd.ntmps16
  go_wp2_with fail
  refine cF.mono ?_
  rintro e w1 ⟨a, c', M, rfl, hO, hb1⟩
  have hF := hO.flds
  obtain ⟨g, o, B0, c0, rfl, -, q0, -, O0⟩ := hF 0 (by simp)
  obtain ⟨g', o', B1, c1, e1, -, q1, -, O1⟩ := hF 1 (by simp)
  obtain ⟨rfl, rfl⟩ : g = g' ∧ o = o' := by simpa using e1
  obtain ⟨g1, o1, rfl, -, r0, r1⟩ := O1 0 (by simp)
  have HB := hid (hb0.trans (hb1.mono (by simp; omega)))
  simp only [List.getElem_cons_zero, List.getElem_cons_succ, List.length_cons, List.length_nil, Nat.zero_mul, Nat.add_zero, Nat.zero_add] at q0 q1 r0 r1
  clear hO hF hb1 hb0 cF O0 O1 e1
  go_wp2_with fail
  go_ret
  exact ⟨rfl, HB.out⟩
end Go.Proofs.YtchnopfnjkbelaaDoor
