/- tree.copied: a node of the same texts. Conditions: sizes. -/
import Derived.Test.YtngllipfnbmpeaaDrawn
import Derived.Test.YtngllipfnbmpeaaPgC
namespace Go.Proofs.Ytngllipfnbmpeaa
open Go.RowKit
open Go.Lib (hid)

theorem Cells.set {L : List (Addr × Value)} {w : World} (h : Cells L w) {p : Addr} (hp : ∀ q ∈ L, q.1.block ≠ p.block) (v : Value) : Cells L (w.setCell p v) := fun q hq =>
  (World.cell?_setCell_other w p q.1 v fun e => hp q hq (by rw [e])).trans (h q hq)
theorem Box3.free {W : World} {g : Nat} {a b c : Value} (h : Box3 W g a b c) (o : Nat) : W.frozen? ⟨g, o, none⟩ = false := by
  unfold Box3 at h
  simp [World.frozen?, h]
theorem heapN_set {w : World} {b k : Nat} {cs : Array Value} {t : TypeId} {f : Nat × Nat} (h : w.heap[b]? = some (.cells cs t f)) (v : Value) : (w.setCell ⟨b, k, none⟩ v).heap[b]? = some (.cells (cs.setIfInBounds k v) t f) := by
  show (w.heap.modify b _)[b]? = _
  rw [Array.getElem?_modify, if_pos rfl, h]
  rfl
theorem Box3.set {W : World} {g : Nat} {a b c : Value} (h : Box3 W g a b c) (a' b' c' : Value) : Box3 (((W.setCell ⟨g, 0, none⟩ a').setCell ⟨g, 1, none⟩ b').setCell ⟨g, 2, none⟩ c') g a' b' c' := by
  simpa [Box3] using heapN_set (k := 2) (heapN_set (k := 1) (heapN_set (k := 0) h a') b') c'
set_option maxRecDepth 100000 in
set_option maxHeartbeats 4000000 in
theorem copied_any (n : ND) (w : World) (hp : n.p.length ≤ 281474976710656) (hx : n.x.length ≤ 281474976710656) :
    Calls Try.prog 28 #[encN n] w fun e w' => e = .returned (encN n) ∧ Below w.heap.size w w' := by
  obtain ⟨p, d, x⟩ := n
  simp only at hp hx
  have cP := fun W => clone_any p hp W
  have cX := fun W => clone_any x hx W
  obtain ⟨W0, hW0⟩ : ∃ W0, (w.alloc (.cells #[encS p, .bool d, encS x] 53)).alloc (.cells #[.string ⟨#[]⟩, .bool false, .string ⟨#[]⟩] 53) = W0 := ⟨_, rfl⟩
  have hb : Below w.heap.size w W0 := by rw [← hW0]; exact ((Below.refl _ _).alloc (Nat.le_refl _) _).alloc (by simp) _
  have k1 : Box3 W0 w.heap.size (encS p) (.bool d) (encS x) := by rw [← hW0]; exact (Below.heap_alloc _ _ _ (by simp)).trans (heap_alloc_new _ _)
  have k2 : Box3 W0 (w.heap.size + 1) (.string ⟨#[]⟩) (.bool false) (.string ⟨#[]⟩) := by
    rw [← hW0]
    have := heap_alloc_new (w.alloc (.cells #[encS p, .bool d, encS x] 53)) (.cells #[.string ⟨#[]⟩, .bool false, .string ⟨#[]⟩] 53)
    rwa [World.size_alloc] at this
  have hS : Cells [(⟨w.heap.size, 0, none⟩, encS p), (⟨w.heap.size, 1, none⟩, .bool d), (⟨w.heap.size, 2, none⟩, encS x)] W0.drew := fun z hz => by
    rcases List.mem_cons.1 hz with rfl | hz
    · exact k1.a0
    rcases List.mem_cons.1 hz with rfl | hz
    · exact k1.a1
    rcases List.mem_cons.1 hz with rfl | hz
    · exact k1.a2
    · cases hz
  have hs0 : W0.heap.size = w.heap.size + 2 := by rw [← hW0]; simp
  clear k1
  go_enter Try.func28, Try.ntmps28
  go_wp2_with fail
  refine wp_region_held_drew (S := Cells [(⟨w.heap.size, 0, none⟩, encS p), (⟨w.heap.size, 1, none⟩, .bool d), (⟨w.heap.size, 2, none⟩, encS x)]) (by kernel_rfl) hS (fun _ => ?_)
  refine takeH (i := 0) (d := some 3) (v := .pointer (some ⟨w.heap.size, 0, none⟩)) rfl rfl (by kernel_rfl) (by kernel_rfl) (by kernel_rfl) (fun _ _ _ h => h) (Or.inl ⟨by rfl, fun w' _ => by go_simp⟩) hS ?_
  try simp only [Act.put, List.setIfInBounds_toArray, List.set_cons_zero, List.set_cons_succ]
  refine takeH (i := 1) (d := some 4) (v := encS p) rfl rfl (by kernel_rfl) (by kernel_rfl) (by kernel_rfl) (fun _ _ _ h => h) (Or.inl ⟨by rfl, fun w' hS' => by have s0 := hS' _ (.head _); dsimp only at s0; go_simp⟩) hS ?_
  try simp only [Act.put, List.setIfInBounds_toArray, List.set_cons_zero, List.set_cons_succ]
  refine takeH (i := 3) (d := some 6) (v := .pointer (some ⟨w.heap.size, 1, none⟩)) rfl rfl (by kernel_rfl) (by kernel_rfl) (by kernel_rfl) (fun _ _ _ h => h) (Or.inl ⟨by rfl, fun w' _ => by go_simp⟩) hS ?_
  try simp only [Act.put, List.setIfInBounds_toArray, List.set_cons_zero, List.set_cons_succ]
  refine takeH (i := 4) (d := some 7) (v := .bool d) rfl rfl (by kernel_rfl) (by kernel_rfl) (by kernel_rfl) (fun _ _ _ h => h) (Or.inl ⟨by rfl, fun w' hS' => by have s1 := hS' _ (.tail _ (.head _)); dsimp only at s1; go_simp⟩) hS ?_
  try simp only [Act.put, List.setIfInBounds_toArray, List.set_cons_zero, List.set_cons_succ]
  refine takeH (i := 5) (d := some 8) (v := .pointer (some ⟨w.heap.size, 2, none⟩)) rfl rfl (by kernel_rfl) (by kernel_rfl) (by kernel_rfl) (fun _ _ _ h => h) (Or.inl ⟨by rfl, fun w' _ => by go_simp⟩) hS ?_
  try simp only [Act.put, List.setIfInBounds_toArray, List.set_cons_zero, List.set_cons_succ]
  refine takeH (i := 6) (d := some 9) (v := encS x) rfl rfl (by kernel_rfl) (by kernel_rfl) (by kernel_rfl) (fun _ _ _ h => h) (Or.inl ⟨by rfl, fun w' hS' => by have s2 := hS' _ (.tail _ (.tail _ (.head _))); dsimp only at s2; go_simp⟩) hS ?_
  try simp only [Act.put, List.setIfInBounds_toArray, List.set_cons_zero, List.set_cons_succ]
  refine wpAnyH_ready (rs := [2]) (by kernel_rfl) (by simp) (AllReadyH.cons rfl (fun K hK => ?_) AllReadyH.nil)
  go_simp
  go_at_call 30
  refine (cP W0.drew).mono ?_
  rintro e w1 ⟨rfl, hb1⟩
  have hS1 := hS.below hb1
  go_wp2_with fail
  refine hK.out _ _ hS1 (fun _ => ?_)
  clear hK K
  try simp only [Act.put, List.setIfInBounds_toArray, List.set_cons_zero, List.set_cons_succ]
  refine wpAnyH_ready (rs := [7]) (by kernel_rfl) (by simp) (AllReadyH.cons rfl (fun K hK => ?_) AllReadyH.nil)
  go_simp
  go_at_call 30
  refine (cX w1).mono ?_
  rintro e w2 ⟨rfl, hb2⟩
  have hS2 := hS1.below hb2
  have hb12 := (Below.refl _ W0).drew.trans (hb1.trans (hb2.mono hb1.size))
  have k3 : Box3 w2 (w.heap.size + 1) (.string ⟨#[]⟩) (.bool false) (.string ⟨#[]⟩) := heap_below' k2 hb12
  go_wp2_with fail
  refine hK.out _ _ hS2 (fun _ => ?_)
  clear hK K
  try simp only [Act.put, List.setIfInBounds_toArray, List.set_cons_zero, List.set_cons_succ]
  refine takeH (i := 8) (d := some 11) (v := .agg #[encS p, .bool d, encS x]) rfl rfl (by kernel_rfl) (by kernel_rfl) (by kernel_rfl) (fun _ _ _ h => h) (Or.inl ⟨by rfl, fun w' _ => by go_simp⟩) hS2 ?_
  try simp only [Act.put, List.setIfInBounds_toArray, List.set_cons_zero, List.set_cons_succ]
  refine wpAnyH_ready (rs := [9]) (by kernel_rfl) (by simp) (AllReadyH.cons rfl (fun K hK => ?_) AllReadyH.nil)
  have e0 := k3.a0; have e1 := k3.a1; have e2 := k3.a2
  have f0 := k3.free 0; have f1 := k3.free 1; have f2 := k3.free 2
  go_simp
  refine hK.out _ _ (((hS2.set (by simp) _).set (by simp) _).set (by simp) _) (fun _ => ?_)
  clear hK K
  try simp only [Act.put, List.setIfInBounds_toArray, List.set_cons_zero, List.set_cons_succ]
  refine wpAnyH_done (by kernel_rfl) ?_ _
  have hB := hid (((((hb.trans (hb12.mono (show w.heap.size ≤ W0.heap.size by omega))).setCell (p := ⟨w.heap.size + 1, 0, none⟩) (by show w.heap.size ≤ w.heap.size + 1; omega) (encS p)).setCell (p := ⟨w.heap.size + 1, 1, none⟩) (by show w.heap.size ≤ w.heap.size + 1; omega) (.bool d)).setCell (p := ⟨w.heap.size + 1, 2, none⟩) (by show w.heap.size ≤ w.heap.size + 1; omega) (encS x)))
  have k4 : Box3 (((w2.setCell ⟨w.heap.size + 1, 0, none⟩ (encS p)).setCell ⟨w.heap.size + 1, 1, none⟩ (.bool d)).setCell ⟨w.heap.size + 1, 2, none⟩ (encS x)) (w.heap.size + 1) (encS p) (.bool d) (encS x) := k3.set _ _ _
  clear hS hS1 hS2 hb1 hb2 hb12 k3 e0 e1 e2 f0 f1 f2 hW0 k2
  generalize ((w2.setCell ⟨w.heap.size + 1, 0, none⟩ (encS p)).setCell ⟨w.heap.size + 1, 1, none⟩ (.bool d)).setCell ⟨w.heap.size + 1, 2, none⟩ (encS x) = w3 at *
  have e0 := k4.a0; have e1 := k4.a1; have e2 := k4.a2
  go_wp2
  exact bodyPost_ret (v := .agg #[encS p, .bool d, encS x]) (by simp [results, Try.results28, go_sem, e0, e1, e2]) rfl ⟨rfl, hB.out⟩
end Go.Proofs.Ytngllipfnbmpeaa
