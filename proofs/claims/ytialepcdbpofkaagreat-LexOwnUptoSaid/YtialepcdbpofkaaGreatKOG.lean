/- What the statement of Own13Said leans on, part 7: LxZ, LyA, LyB, LyF, LyI. Conditions: each theorem's own. -/
import Derived.Test.YtialepcdbpofkaaGreatKOF
namespace Go.Proofs.YtialepcdbpofkaaGreat
open Go.RowKit
open Go.Lib (hid)
set_option linter.unusedSimpArgs false in
set_option maxRecDepth 100000 in
set_option maxHeartbeats 4000000 in
theorem want_ok (s : ByteArray) (bash : Bool) (p d : Nat) (A : Option Addr) (c : Nat) (l : List (List UInt8)) (x : List UInt8) (hs : s.size ≤ 281474976710656) (hp : p ≤ s.size) (hlc : l.length ≤ 1099511627776) (B : Nat) (w : World) (hr : LRd w B s bash p d) (hT : TextsP w (fun _ => True) A l)
    (hf : l.find? (fun x => Lib.hasPrefix (s.data.toList.drop p) x) = some x) :
    Calls Tryz.prog 68 #[.pointer (some ⟨B, 0, none⟩), .slice A l.length c] w fun e w' => e = .returned (encS x) ∧ KF (fun k => k = B) w w' ∧ LRd w' B s bash (p + x.length) d := by
  have hpi : (p : Int) ≤ (s.size : Int) := by omega
  have hp0 : (0 : Int) ≤ (p : Int) := by omega
  have hsi : (s.size : Int) ≤ 281474976710656 := by omega
  have hle : x.length ≤ s.size - p := by
    have h := List.find?_some hf
    unfold Lib.hasPrefix at h
    have h2 := (List.isPrefixOf_iff_prefix.1 h).length_le
    rw [List.length_drop, len_toList] at h2
    exact h2
  have hpx : (p : Int) + (x.length : Int) ≤ 281474976710656 := by omega
  have hx0 : (0 : Int) ≤ (p : Int) + (x.length : Int) := by omega
  have hb0 : Below w.heap.size w (w.alloc (.cells #[.string ⟨#[]⟩] 9)) := (Below.refl _ _).alloc (Nat.le_refl _) _
  have hn0 : (w.alloc (.cells #[.string ⟨#[]⟩] 9)).heap[w.heap.size]? = some (.cells #[.string ⟨#[]⟩] 9 (0, 0)) := heap_alloc_new w _
  have hb2 : Below w.heap.size w (w.alloc (.cells #[.string (s.extract p s.size)] 9)) := (Below.refl _ _).alloc (Nat.le_refl _) _
  have hn1 : ((w.alloc (.cells #[.string (s.extract p s.size)] 9)).drew).heap[w.heap.size]? = some (.cells #[.string (s.extract p s.size)] 9 (0, 0)) := heap_alloc_new w _
  have hkk : KF (fun k => k = B) w ((w.alloc (.cells #[.string (s.extract p s.size)] 9)).drew) := ((KF.refl (fun k => k = B) w).alloc _).drew
  have hkb : Below w.heap.size w ((w.alloc (.cells #[.string (s.extract p s.size)] 9)).drew) := below_drewN hb2 1
  have HA := hid (And.intro (hr.below hb0) (And.intro (hr.below hkb) (And.intro hkb (And.intro hkk (show ((w.alloc (.cells #[.string (s.extract p s.size)] 9)).drew).cell? ⟨w.heap.size, 0, none⟩ = some (.string (s.extract p s.size)) by rw [Lib.cell_of_heap hn1]; rfl)))))
  have k0 : (w.alloc (.cells #[.string ⟨#[]⟩] 9)).cell? ⟨w.heap.size, 0, none⟩ = some (.string ⟨#[]⟩) := by rw [Lib.cell_of_heap hn0]; rfl
  have k1 : (w.alloc (.cells #[.string ⟨#[]⟩] 9)).frozen? ⟨w.heap.size, 0, none⟩ = false := Lib.frozen_of_heap hn0 0
  have hfs : s.data.toList.drop p = (s.extract p s.size).data.toList := by rw [ext_from]
  rw [hfs] at hf
  have cF : Calls Tryz.prog 81 #[.slice A l.length c, .func (.func 82) #[] #[.pointer (some ⟨w.heap.size, 0, none⟩)]] ((w.alloc (.cells #[.string (s.extract p s.size)] 9)).drew) fun e w' => e = .returned (.tuple #[encS x, .bool true]) ∧ w' = ((w.alloc (.cells #[.string (s.extract p s.size)] 9)).drew) := by
    have := firstS_any 82 (.pointer (some ⟨w.heap.size, 0, none⟩)) (enters_of Tryz.func82 (by kernel_rfl) rfl) (fun x => Lib.hasPrefix (s.extract p s.size).data.toList x) A c l _ (hT.below hkb) hlc (fun x _ => wantFn1 (s.extract p s.size) w.heap.size x _ HA.out.2.2.2.2)
    rw [hf] at this
    exact this
  clear hb0 hn0 hb2 hn1 hkk hkb hf hfs hT
  go_enter Tryz.func68, Tryz.ntmps68
  go_wp2_with fail
  refine wp_region_held_drew (S := fun W => LRd W B s bash p d) (by kernel_rfl) hr (fun _ => ?_)
  have hS : LRd (World.drew w) B s bash p d := hr
  refine takeH (i := 0) (d := some 10) (v := .pointer (some ⟨B, 0, none⟩)) rfl rfl (by kernel_rfl) (by kernel_rfl) (by kernel_rfl) (fun _ _ _ h => h) (Or.inl ⟨by rfl, fun w' _ => by go_simp⟩) hS ?_
  try simp only [Act.put, List.setIfInBounds_toArray, List.set_cons_zero, List.set_cons_succ]
  refine takeH (i := 1) (d := some 11) (v := .pointer (some ⟨B, 0, none⟩)) rfl rfl (by kernel_rfl) (by kernel_rfl) (by kernel_rfl) (fun _ _ _ h => h) (Or.inl ⟨by rfl, fun w' _ => by go_simp⟩) hS ?_
  try simp only [Act.put, List.setIfInBounds_toArray, List.set_cons_zero, List.set_cons_succ]
  refine takeH (i := 2) (d := some 12) (v := .pointer (some ⟨B, 0, none⟩)) rfl rfl (by kernel_rfl) (by kernel_rfl) (by kernel_rfl) (fun _ _ _ h => h) (Or.inl ⟨by rfl, fun w' _ => by go_simp⟩) hS ?_
  try simp only [Act.put, List.setIfInBounds_toArray, List.set_cons_zero, List.set_cons_succ]
  refine takeH (i := 3) (d := some 13) (v := .string s) rfl rfl (by kernel_rfl) (by kernel_rfl) (by kernel_rfl) (fun _ _ _ h => h) (Or.inl ⟨by rfl, fun w' hS' => by have s0 := LRd.c0 hS'; go_simp⟩) hS ?_
  try simp only [Act.put, List.setIfInBounds_toArray, List.set_cons_zero, List.set_cons_succ]
  refine takeH (i := 4) (d := some 14) (v := .pointer (some ⟨B, 0, none⟩)) rfl rfl (by kernel_rfl) (by kernel_rfl) (by kernel_rfl) (fun _ _ _ h => h) (Or.inl ⟨by rfl, fun w' _ => by go_simp⟩) hS ?_
  try simp only [Act.put, List.setIfInBounds_toArray, List.set_cons_zero, List.set_cons_succ]
  refine takeH (i := 5) (d := some 15) (v := .pointer (some ⟨B, 0, none⟩)) rfl rfl (by kernel_rfl) (by kernel_rfl) (by kernel_rfl) (fun _ _ _ h => h) (Or.inl ⟨by rfl, fun w' _ => by go_simp⟩) hS ?_
  try simp only [Act.put, List.setIfInBounds_toArray, List.set_cons_zero, List.set_cons_succ]
  refine takeH (i := 6) (d := some 16) (v := .pointer (some ⟨B, 1, none⟩)) rfl rfl (by kernel_rfl) (by kernel_rfl) (by kernel_rfl) (fun _ _ _ h => h) (Or.inl ⟨by rfl, fun w' _ => by go_simp⟩) hS ?_
  try simp only [Act.put, List.setIfInBounds_toArray, List.set_cons_zero, List.set_cons_succ]
  refine takeH (i := 7) (d := some 17) (v := .int .i64 p) rfl rfl (by kernel_rfl) (by kernel_rfl) (by kernel_rfl) (fun _ _ _ h => h) (Or.inl ⟨by rfl, fun w' hS' => by have s0 := LRd.c1 hS'; go_simp⟩) hS ?_
  try simp only [Act.put, List.setIfInBounds_toArray, List.set_cons_zero, List.set_cons_succ]
  refine takeH (i := 8) (d := some 18) (v := .string (s.extract p s.size)) rfl rfl (by kernel_rfl) (by kernel_rfl) (by kernel_rfl) (fun _ _ _ h => h) (Or.inl ⟨by rfl, fun w' _ => by go_simp⟩) hS ?_
  try simp only [Act.put, List.setIfInBounds_toArray, List.set_cons_zero, List.set_cons_succ]
  refine wpAnyH_ready (rs := [9]) (by kernel_rfl) (by simp) (AllReadyH.cons rfl (fun K hK => ?_) AllReadyH.nil)
  go_simp
  have hS1 : LRd ((w.alloc (.cells #[.string ⟨#[]⟩] 9)).drew) B s bash p d := HA.out.1
  refine hK.out _ _ hS1 (fun _ => ?_)
  clear hK K
  try simp only [Act.put, List.setIfInBounds_toArray, List.set_cons_zero, List.set_cons_succ]
  refine wpAnyH_ready (rs := [10]) (by kernel_rfl) (by simp) (AllReadyH.cons rfl (fun K hK => ?_) AllReadyH.nil)
  go_simp
  have hS2 : LRd ((w.alloc (.cells #[.string (s.extract p s.size)] 9)).drew) B s bash p d := HA.out.2.1
  refine hK.out _ _ hS2 (fun _ => ?_)
  clear hK K
  try simp only [Act.put, List.setIfInBounds_toArray, List.set_cons_zero, List.set_cons_succ]
  refine wpAnyH_done (by kernel_rfl) ?_ _
  clear k0 k1 hS hS1
  generalize hW1 : (w.alloc (.cells #[.string (s.extract p s.size)] 9)).drew = W1 at *
  have c1 := hS2.c1
  have f1 := hS2.free 1
  have HF := hid (And.intro (HA.out.2.2.2.1.set (b := B) (.inl rfl) 1 (.int .i64 ((p : Int) + (x.length : Int)))) hS2)
  go_wp2_with (go_at_call 81; (with_reducible refine cF.mono ?_); rintro e w2 ⟨rfl, hw⟩; have hw := hw.symm; subst hw)
  go_ret
  refine ⟨rfl, HF.out.1, ?_⟩
  have h := HF.out.2.at_ (p + x.length)
  rw [show ((p + x.length : Nat) : Int) = (p : Int) + (x.length : Int) by omega] at h
  exact h
set_option linter.unusedSimpArgs false in
set_option maxRecDepth 100000 in
set_option maxHeartbeats 4000000 in
theorem want_err (s : ByteArray) (bash : Bool) (p d : Nat) (A : Option Addr) (c : Nat) (l : List (List UInt8)) (hs : s.size ≤ 281474976710656) (hp : p ≤ s.size) (hlc : l.length ≤ 1099511627776) (B : Nat) (w : World) (hr : LRd w B s bash p d) (hT : TextsP w (fun _ => True) A l)
    (hf : l.find? (fun x => Lib.hasPrefix (s.data.toList.drop p) x) = none) :
    Calls Tryz.prog 68 #[.pointer (some ⟨B, 0, none⟩), .slice A l.length c] w fun e w' => e = .panicked [if (l.find? (fun x => Lib.hasPrefix x (s.data.toList.drop p))).isSome then faultL 8 s.size else faultL 33 p] ∧ Below w.heap.size w w' := by
  have hpi : (p : Int) ≤ (s.size : Int) := by omega
  have hp0 : (0 : Int) ≤ (p : Int) := by omega
  have hsi : (s.size : Int) ≤ 281474976710656 := by omega
  have hb0 : Below w.heap.size w (w.alloc (.cells #[.string ⟨#[]⟩] 9)) := (Below.refl _ _).alloc (Nat.le_refl _) _
  have hn0 : (w.alloc (.cells #[.string ⟨#[]⟩] 9)).heap[w.heap.size]? = some (.cells #[.string ⟨#[]⟩] 9 (0, 0)) := heap_alloc_new w _
  have hb2 : Below w.heap.size w (w.alloc (.cells #[.string (s.extract p s.size)] 9)) := (Below.refl _ _).alloc (Nat.le_refl _) _
  have hn1 : ((w.alloc (.cells #[.string (s.extract p s.size)] 9)).drew).heap[w.heap.size]? = some (.cells #[.string (s.extract p s.size)] 9 (0, 0)) := heap_alloc_new w _
  have hkk : KF (fun k => k = B) w ((w.alloc (.cells #[.string (s.extract p s.size)] 9)).drew) := ((KF.refl (fun k => k = B) w).alloc _).drew
  have hkb : Below w.heap.size w ((w.alloc (.cells #[.string (s.extract p s.size)] 9)).drew) := below_drewN hb2 1
  have HA := hid (And.intro (hr.below hb0) (And.intro (hr.below hkb) (And.intro hkb (And.intro hkk (show ((w.alloc (.cells #[.string (s.extract p s.size)] 9)).drew).cell? ⟨w.heap.size, 0, none⟩ = some (.string (s.extract p s.size)) by rw [Lib.cell_of_heap hn1]; rfl)))))
  have k0 : (w.alloc (.cells #[.string ⟨#[]⟩] 9)).cell? ⟨w.heap.size, 0, none⟩ = some (.string ⟨#[]⟩) := by rw [Lib.cell_of_heap hn0]; rfl
  have k1 : (w.alloc (.cells #[.string ⟨#[]⟩] 9)).frozen? ⟨w.heap.size, 0, none⟩ = false := Lib.frozen_of_heap hn0 0
  have hfs : s.data.toList.drop p = (s.extract p s.size).data.toList := by rw [ext_from]
  rw [hfs] at hf ⊢
  have cF : Calls Tryz.prog 81 #[.slice A l.length c, .func (.func 82) #[] #[.pointer (some ⟨w.heap.size, 0, none⟩)]] ((w.alloc (.cells #[.string (s.extract p s.size)] 9)).drew) fun e w' => e = .returned (.tuple #[encS [], .bool false]) ∧ w' = ((w.alloc (.cells #[.string (s.extract p s.size)] 9)).drew) := by
    have := firstS_any 82 (.pointer (some ⟨w.heap.size, 0, none⟩)) (enters_of Tryz.func82 (by kernel_rfl) rfl) (fun x => Lib.hasPrefix (s.extract p s.size).data.toList x) A c l _ (hT.below hkb) hlc (fun x _ => wantFn1 (s.extract p s.size) w.heap.size x _ HA.out.2.2.2.2)
    rw [hf] at this
    exact this
  have cG := firstS_any 83 (.pointer (some ⟨w.heap.size, 0, none⟩)) (enters_of Tryz.func83 (by kernel_rfl) rfl) (fun x => Lib.hasPrefix x (s.extract p s.size).data.toList) A c l _ (hT.below hkb) hlc (fun x _ => wantFn2 (s.extract p s.size) w.heap.size x _ HA.out.2.2.2.2)
  obtain ⟨u, hu⟩ : ∃ u, (l.find? (fun x => Lib.hasPrefix x (s.extract p s.size).data.toList)) = u := ⟨_, rfl⟩
  rw [hu] at cG ⊢
  have cS := short_any B s bash p d ((w.alloc (.cells #[.string (s.extract p s.size)] 9)).drew) HA.out.2.1
  clear hb0 hn0 hb2 hn1 hkk hkb hf hfs hT hu
  go_enter Tryz.func68, Tryz.ntmps68
  go_wp2_with fail
  refine wp_region_held_drew (S := fun W => LRd W B s bash p d) (by kernel_rfl) hr (fun _ => ?_)
  have hS : LRd (World.drew w) B s bash p d := hr
  refine takeH (i := 0) (d := some 10) (v := .pointer (some ⟨B, 0, none⟩)) rfl rfl (by kernel_rfl) (by kernel_rfl) (by kernel_rfl) (fun _ _ _ h => h) (Or.inl ⟨by rfl, fun w' _ => by go_simp⟩) hS ?_
  try simp only [Act.put, List.setIfInBounds_toArray, List.set_cons_zero, List.set_cons_succ]
  refine takeH (i := 1) (d := some 11) (v := .pointer (some ⟨B, 0, none⟩)) rfl rfl (by kernel_rfl) (by kernel_rfl) (by kernel_rfl) (fun _ _ _ h => h) (Or.inl ⟨by rfl, fun w' _ => by go_simp⟩) hS ?_
  try simp only [Act.put, List.setIfInBounds_toArray, List.set_cons_zero, List.set_cons_succ]
  refine takeH (i := 2) (d := some 12) (v := .pointer (some ⟨B, 0, none⟩)) rfl rfl (by kernel_rfl) (by kernel_rfl) (by kernel_rfl) (fun _ _ _ h => h) (Or.inl ⟨by rfl, fun w' _ => by go_simp⟩) hS ?_
  try simp only [Act.put, List.setIfInBounds_toArray, List.set_cons_zero, List.set_cons_succ]
  refine takeH (i := 3) (d := some 13) (v := .string s) rfl rfl (by kernel_rfl) (by kernel_rfl) (by kernel_rfl) (fun _ _ _ h => h) (Or.inl ⟨by rfl, fun w' hS' => by have s0 := LRd.c0 hS'; go_simp⟩) hS ?_
  try simp only [Act.put, List.setIfInBounds_toArray, List.set_cons_zero, List.set_cons_succ]
  refine takeH (i := 4) (d := some 14) (v := .pointer (some ⟨B, 0, none⟩)) rfl rfl (by kernel_rfl) (by kernel_rfl) (by kernel_rfl) (fun _ _ _ h => h) (Or.inl ⟨by rfl, fun w' _ => by go_simp⟩) hS ?_
  try simp only [Act.put, List.setIfInBounds_toArray, List.set_cons_zero, List.set_cons_succ]
  refine takeH (i := 5) (d := some 15) (v := .pointer (some ⟨B, 0, none⟩)) rfl rfl (by kernel_rfl) (by kernel_rfl) (by kernel_rfl) (fun _ _ _ h => h) (Or.inl ⟨by rfl, fun w' _ => by go_simp⟩) hS ?_
  try simp only [Act.put, List.setIfInBounds_toArray, List.set_cons_zero, List.set_cons_succ]
  refine takeH (i := 6) (d := some 16) (v := .pointer (some ⟨B, 1, none⟩)) rfl rfl (by kernel_rfl) (by kernel_rfl) (by kernel_rfl) (fun _ _ _ h => h) (Or.inl ⟨by rfl, fun w' _ => by go_simp⟩) hS ?_
  try simp only [Act.put, List.setIfInBounds_toArray, List.set_cons_zero, List.set_cons_succ]
  refine takeH (i := 7) (d := some 17) (v := .int .i64 p) rfl rfl (by kernel_rfl) (by kernel_rfl) (by kernel_rfl) (fun _ _ _ h => h) (Or.inl ⟨by rfl, fun w' hS' => by have s0 := LRd.c1 hS'; go_simp⟩) hS ?_
  try simp only [Act.put, List.setIfInBounds_toArray, List.set_cons_zero, List.set_cons_succ]
  refine takeH (i := 8) (d := some 18) (v := .string (s.extract p s.size)) rfl rfl (by kernel_rfl) (by kernel_rfl) (by kernel_rfl) (fun _ _ _ h => h) (Or.inl ⟨by rfl, fun w' _ => by go_simp⟩) hS ?_
  try simp only [Act.put, List.setIfInBounds_toArray, List.set_cons_zero, List.set_cons_succ]
  refine wpAnyH_ready (rs := [9]) (by kernel_rfl) (by simp) (AllReadyH.cons rfl (fun K hK => ?_) AllReadyH.nil)
  go_simp
  have hS1 : LRd ((w.alloc (.cells #[.string ⟨#[]⟩] 9)).drew) B s bash p d := HA.out.1
  refine hK.out _ _ hS1 (fun _ => ?_)
  clear hK K
  try simp only [Act.put, List.setIfInBounds_toArray, List.set_cons_zero, List.set_cons_succ]
  refine wpAnyH_ready (rs := [10]) (by kernel_rfl) (by simp) (AllReadyH.cons rfl (fun K hK => ?_) AllReadyH.nil)
  go_simp
  have hS2 : LRd ((w.alloc (.cells #[.string (s.extract p s.size)] 9)).drew) B s bash p d := HA.out.2.1
  refine hK.out _ _ hS2 (fun _ => ?_)
  clear hK K
  try simp only [Act.put, List.setIfInBounds_toArray, List.set_cons_zero, List.set_cons_succ]
  refine wpAnyH_done (by kernel_rfl) ?_ _
  clear k0 k1 hS hS1
  generalize hW1 : (w.alloc (.cells #[.string (s.extract p s.size)] 9)).drew = W1 at *
  have c1 := hS2.c1
  have cH := here_any B s bash p d W1 33 hS2
  rcases u with _ | y
  · have cG1 : Calls Tryz.prog 81 #[.slice A l.length c, .func (.func 83) #[] #[.pointer (some ⟨w.heap.size, 0, none⟩)]] W1 fun e w' => e = .returned (.tuple #[encS [], .bool false]) ∧ w' = W1 := cG
    clear cG
    go_wp2_with (first
      | (go_at_call 81; (with_reducible refine cF.mono ?_); rintro e w2 ⟨rfl, hw⟩; have hw := hw.symm; subst hw)
      | (go_at_call 81; (with_reducible refine cG1.mono ?_); rintro e w2 ⟨rfl, hw⟩; have hw := hw.symm; subst hw)
      | (go_at_call 45; (with_reducible refine cH.mono ?_); rintro e w3 ⟨rfl, hb3⟩))
    exact ⟨rfl, rfl, HA.out.2.2.1.trans (hb3.mono HA.out.2.2.1.size)⟩
  · have cG1 : Calls Tryz.prog 81 #[.slice A l.length c, .func (.func 83) #[] #[.pointer (some ⟨w.heap.size, 0, none⟩)]] W1 fun e w' => e = .returned (.tuple #[encS y, .bool true]) ∧ w' = W1 := cG
    clear cG
    go_wp2_with (first
      | (go_at_call 81; (with_reducible refine cF.mono ?_); rintro e w2 ⟨rfl, hw⟩; have hw := hw.symm; subst hw)
      | (go_at_call 81; (with_reducible refine cG1.mono ?_); rintro e w2 ⟨rfl, hw⟩; have hw := hw.symm; subst hw)
      | (go_at_call 42; (with_reducible refine cS.mono ?_); rintro e w3 ⟨rfl, hb3⟩))
    exact ⟨rfl, rfl, HA.out.2.2.1.trans (hb3.mono HA.out.2.2.1.size)⟩
end Go.Proofs.YtialepcdbpofkaaGreat
namespace Go.Proofs.YtialepcdbpofkaaGreat
open Go.RowKit
open Go.Lib (hid)
def partedL : List UInt8 → Nat → Nat
  | [], _ => 0
  | c :: r, a => if c = 63 then partedL r (a + 1) + 1 else if c = 58 then (if a = 0 then 0 else partedL r (a - 1) + 1) else partedL r a + 1
theorem partedL_le : ∀ (l : List UInt8) (a : Nat), partedL l a ≤ l.length
  | [], _ => Nat.le_refl _
  | c :: r, a => by
    have h1 := partedL_le r (a + 1)
    have h2 := partedL_le r (a - 1)
    have h3 := partedL_le r a
    unfold partedL
    simp only [List.length_cons]
    split
    · omega
    · split
      · split <;> omega
      · omega
set_option maxRecDepth 100000 in
set_option maxHeartbeats 4000000 in
theorem parted_any (s : ByteArray) (hs : s.size ≤ 9007199254740992) (w : World) :
    Calls Tryz.prog 101 #[.string s] w fun e w' => e = .returned (.int .i64 (partedL s.data.toList 0)) ∧ w' = w := by
  have hsi : (s.size : Int) ≤ 9007199254740992 := by omega
  obtain ⟨r, hr⟩ : ∃ r, partedL s.data.toList 0 = r := ⟨_, rfl⟩
  have H0 : Hid (0 + partedL (s.data.toList.drop 0) 0 = r) := hid (by rw [List.drop_zero, hr]; omega)
  rw [hr]
  clear hr
  go_enter Tryz.func101, Tryz.ntmps101
  go_wp2_with fail
  go_loopw [3, 7] (fun va vi wr => ∃ k a : Nat, va = .int .i64 a ∧ vi = .int .i64 k ∧ a ≤ k ∧ k ≤ s.size ∧ Hid (k + partedL (s.data.toList.drop k) a = r) ∧ wr = w) (fun _ vi _ => s.size - (intOf vi).toNat)
  case atStart => exact ⟨0, 0, rfl, rfl, Nat.le_refl _, Nat.zero_le _, H0, rfl⟩
  case round =>
    obtain ⟨k, a, rfl, rfl, hak, hk, HR, hwr⟩ := hrel
    have hwr := hwr.symm
    subst hwr
    have hk0 : (0 : Int) ≤ (k : Int) := by omega
    have ha0 : (0 : Int) ≤ (a : Int) := by omega
    have hai : (a : Int) ≤ 9007199254740992 := by omega
    by_cases hlt : k < s.size
    · have hki : (k : Int) < (s.size : Int) := by omega
      obtain ⟨c, hc⟩ : ∃ c, s[k] = c := ⟨_, rfl⟩
      have hdr : s.data.toList.drop k = c :: s.data.toList.drop (k + 1) := by
        have hkl : k < s.data.toList.length := by rw [len_toList]; exact hlt
        rw [List.drop_eq_getElem_cons hkl, getElem_toList s k hlt, hc]
      have HD := hid hdr
      clear hdr
      by_cases h63 : c = 63
      · have g63 : ((c.toNat : Int) == 63) = true := by rw [h63]; rfl
        have HR2 : Hid ((k + 1) + partedL (s.data.toList.drop (k + 1)) (a + 1) = r) := hid (by
          have h := HR.out
          rw [HD.out, partedL, if_pos h63] at h
          omega)
        clear h63 HR HD
        go_wp2_with fail
        go_roundw
        case rel => exact ⟨k + 1, a + 1, by go_num, by go_num, by omega, by omega, HR2, trivial⟩
        case measure => simp [intOf]; omega
      · have g63 : ((c.toNat : Int) == 63) = false := u8_ne h63
        by_cases h58 : c = 58
        · have g58 : ((c.toNat : Int) == 58) = true := by rw [h58]; rfl
          by_cases hz : a = 0
          · have HR2 : Hid (k = r) := hid (by
              have h := HR.out
              rw [HD.out, partedL, if_neg h63, if_pos h58, if_pos hz] at h
              omega)
            subst hz
            clear h63 h58 HR HD
            go_wp2_with fail
            go_ret
            rw [← HR2.out]
            exact ⟨rfl, rfl⟩
          · have gz : ((a : Int) == 0) = false := by simp; omega
            have HR2 : Hid ((k + 1) + partedL (s.data.toList.drop (k + 1)) (a - 1) = r) := hid (by
              have h := HR.out
              rw [HD.out, partedL, if_neg h63, if_pos h58, if_neg hz] at h
              omega)
            have ha1 : ((a - 1 : Nat) : Int) = (a : Int) - 1 := by omega
            have HA1 := hid ha1
            clear h63 h58 HR HD hz ha1
            go_wp2_with fail
            go_roundw
            case rel => exact ⟨k + 1, a - 1, by rw [HA1.out], by go_num, by omega, by omega, HR2, trivial⟩
            case measure => simp [intOf]; omega
        · have g58 : ((c.toNat : Int) == 58) = false := u8_ne h58
          have HR2 : Hid ((k + 1) + partedL (s.data.toList.drop (k + 1)) a = r) := hid (by
            have h := HR.out
            rw [HD.out, partedL, if_neg h63, if_neg h58] at h
            omega)
          clear h63 h58 HR HD
          go_wp2_with fail
          go_roundw
          case rel => exact ⟨k + 1, a, rfl, by go_num, by omega, by omega, HR2, trivial⟩
          case measure => simp [intOf]; omega
    · have hke : k = s.size := by omega
      subst hke
      have hki : ¬ (s.size : Int) < (s.size : Int) := by omega
      have HR2 : Hid (s.size = r) := hid (by
        have h := HR.out
        rw [List.drop_eq_nil_of_le (by rw [len_toList]; exact Nat.le_refl _), partedL] at h
        omega)
      clear HR
      go_wp2_with fail
      go_ret
      rw [← HR2.out]
      exact ⟨rfl, rfl⟩
end Go.Proofs.YtialepcdbpofkaaGreat
namespace Go.Proofs.YtialepcdbpofkaaGreat
open Go.RowKit
open Go.Lib (hid)
theorem hasPre_len {a b : List UInt8} (h : Lib.hasPrefix a b = true) : b.length ≤ a.length := by
  unfold Lib.hasPrefix at h
  exact (List.isPrefixOf_iff_prefix.1 h).length_le
theorem cutPreLite_any (s q : ByteArray) (w : World) :
    Calls Tryz.prog 99 #[.string s, .string q] w fun e w' => e = .returned (.tuple #[.string (if Lib.hasPrefix s.data.toList q.data.toList then s.extract q.size s.size else s), .bool (Lib.hasPrefix s.data.toList q.data.toList)]) ∧ w' = w := by
  have cP := fun W => Tryz.stringslite_HasPrefix s q W
  have hle : Lib.hasPrefix s.data.toList q.data.toList = true → (q.size : Int) ≤ (s.size : Int) := fun h => by
    have := hasPre_len h
    rw [len_toList, len_toList] at this
    omega
  obtain ⟨z, hz⟩ : ∃ z, Lib.hasPrefix s.data.toList q.data.toList = z := ⟨_, rfl⟩
  rw [hz] at cP hle ⊢
  clear hz
  have hq0 : (0 : Int) ≤ (q.size : Int) := by omega
  cases z
  · go_enter Tryz.func99, Tryz.ntmps99
    go_wp2_with (go_at_call 66; (with_reducible refine (cP _).mono ?_); rintro e w1 ⟨rfl, hw⟩; have hw := hw.symm; subst hw)
    go_ret2
    exact ⟨rfl, rfl⟩
  · have hle := hle rfl
    go_enter Tryz.func99, Tryz.ntmps99
    go_wp2_with (go_at_call 66; (with_reducible refine (cP _).mono ?_); rintro e w1 ⟨rfl, hw⟩; have hw := hw.symm; subst hw)
    go_ret2
    exact ⟨rfl, rfl⟩
theorem cutPre_any (s q : ByteArray) (w : World) :
    Calls Tryz.prog 85 #[.string s, .string q] w fun e w' => e = .returned (.tuple #[.string (if Lib.hasPrefix s.data.toList q.data.toList then s.extract q.size s.size else s), .bool (Lib.hasPrefix s.data.toList q.data.toList)]) ∧ w' = w := by
  have cC := fun W => cutPreLite_any s q W
  obtain ⟨v, hv⟩ : ∃ v, (if Lib.hasPrefix s.data.toList q.data.toList then s.extract q.size s.size else s) = v := ⟨_, rfl⟩
  obtain ⟨z, hz⟩ : ∃ z, Lib.hasPrefix s.data.toList q.data.toList = z := ⟨_, rfl⟩
  rw [hv, hz] at cC ⊢
  clear hv hz
  go_enter Tryz.func85, Tryz.ntmps85
  go_wp2_with (go_at_call 99; (with_reducible refine (cC _).mono ?_); rintro e w1 ⟨rfl, hw⟩; have hw := hw.symm; subst hw)
  go_ret2
  exact ⟨rfl, rfl⟩
def countedL (l : List UInt8) : Bool :=
  match l with
  | [] => false
  | c :: r => c == 35 && namedN r r.length != 0 && (decide (Lib.indexByte [35, 63] (r.headD 0) < 0) || Lib.hasPrefix (r.drop (namedN r r.length)) [125])
set_option maxRecDepth 100000 in
set_option maxHeartbeats 4000000 in
theorem counted_any (s : ByteArray) (bash : Bool) (p d : Nat) (hs : s.size ≤ 281474976710656) (hp : p ≤ s.size) (B : Nat) (w : World) (hr : LRd w B s bash p d) :
    Calls Tryz.prog 70 #[.pointer (some ⟨B, 0, none⟩)] w fun e w' => e = .returned (.bool (countedL (s.data.toList.drop p))) ∧ ∃ n, w' = w.drewN n := by
  have c0 := hr.c0; have c1 := hr.c1
  have hpi : (p : Int) ≤ (s.size : Int) := by omega
  have hp0 : (0 : Int) ≤ (p : Int) := by omega
  have cC := fun W => cutPre_any (s.extract p s.size) ⟨#[35]⟩ W
  rw [ext_from] at cC
  rw [show (⟨#[35]⟩ : ByteArray).data.toList = [35] from rfl] at cC
  by_cases hh : Lib.hasPrefix (s.data.toList.drop p) [35] = true
  · have hlen := hasPre_len hh
    rw [List.length_drop, len_toList] at hlen
    have hlen : 1 ≤ s.size - p := hlen
    simp only [hh, if_true] at cC
    obtain ⟨T, hT⟩ : ∃ T, (s.extract p s.size).extract (⟨#[35]⟩ : ByteArray).size (s.extract p s.size).size = T := ⟨_, rfl⟩
    obtain ⟨R, hR⟩ : ∃ R, s.extract p s.size = R := ⟨_, rfl⟩
    have hRl : R.data.toList = s.data.toList.drop p := by rw [← hR, ext_from]
    rw [hR] at hT cC
    rw [hT] at cC
    have hTl : T.data.toList = (s.data.toList.drop p).drop 1 := by
      rw [← hT, ext_from, hRl]
      rfl
    obtain ⟨l, hl⟩ : ∃ l, s.data.toList.drop p = l := ⟨_, rfl⟩
    rw [hl] at hh hTl ⊢
    cases l with
    | nil => simp [Lib.hasPrefix] at hh
    | cons c0' r =>
      have h35 : (c0' == 35) = true := by
        unfold Lib.hasPrefix at hh
        simp [List.isPrefixOf] at hh
        simp [← hh]
      have hTl : T.data.toList = r := hTl
      have hTz : T.size = r.length := by rw [← len_toList, hTl]
      have hrl : r.length ≤ 281474976710656 := by
        have h := congrArg List.length hl
        rw [List.length_drop, len_toList, List.length_cons] at h
        omega
      have cN := fun W => named_any T T.size (by omega) (by omega) W
      rw [hTl, hTz] at cN
      obtain ⟨nn, hnn⟩ : ∃ nn, namedN r r.length = nn := ⟨_, rfl⟩
      have hnl := namedN_le r r.length
      rw [hnn] at cN hnl
      have hcd : countedL (c0' :: r) = (nn != 0 && (decide (Lib.indexByte [35, 63] (r.headD 0) < 0) || Lib.hasPrefix (r.drop nn) [125])) := by
        show (c0' == 35 && namedN r r.length != 0 && (decide (Lib.indexByte [35, 63] (r.headD 0) < 0) || Lib.hasPrefix (r.drop (namedN r r.length)) [125])) = _
        rw [h35, hnn]
        rfl
      rw [hcd]
      have cC1 : ∀ W, Calls Tryz.prog 85 #[.string R, .string ⟨#[35]⟩] W fun e w' => e = .returned (.tuple #[.string T, .bool true]) ∧ w' = W := fun W => cC W
      have hTi : (T.size : Int) = (r.length : Int) := by omega
      clear cC hcd hT hRl hl hh
      by_cases h0 : nn = 0
      · subst h0
        go_enter Tryz.func70, Tryz.ntmps70
        go_wp2_with fail
        go_quiet ((go_at_call 85; exact Calls.quiet_of_same (cC1 _)))
        all_goals
          go_wp2_with (first
            | (go_at_call 61; (with_reducible refine (cN _).mono ?_); rintro e w1 ⟨rfl, hw⟩; have hw := hw.symm; subst hw))
          all_goals
            go_ret
            exact ⟨rfl, _, rfl⟩
      · have hr0 : 0 < r.length := by omega
        have hT0 : 0 < T.size := by omega
        have hc1 : T[0] = r.headD 0 := by
          have h1 := getElem_toList T 0 hT0
          rw [← h1]
          simp only [hTl]
          cases r with
          | nil => simp at hr0
          | cons a b => rfl
        have cI := fun W => (Tryz.strings_IndexByte ⟨#[35, 63]⟩ ((r.headD 0).toNat : Int) W)
        rw [u8_toNat_cast] at cI
        have cP := fun W => Tryz.strings_HasPrefix (T.extract nn T.size) ⟨#[125]⟩ W
        rw [ext_from, hTl] at cP
        obtain ⟨ch, hch⟩ : ∃ ch, r.headD 0 = ch := ⟨_, rfl⟩
        rw [hch] at hc1 cI ⊢
        obtain ⟨iz, hiz⟩ : ∃ iz, Lib.indexByte [35, 63] ch = iz := ⟨_, rfl⟩
        obtain ⟨hz, hhz⟩ : ∃ hz, Lib.hasPrefix (r.drop nn) [125] = hz := ⟨_, rfl⟩
        have cI1 : ∀ W, Calls Tryz.prog 43 #[.string ⟨#[35, 63]⟩, .int .u8 ch.toNat] W fun e w' => e = .returned (.int .i64 iz) ∧ w' = W := fun W => by rw [← hiz]; exact cI W
        have cP1 : ∀ W, Calls Tryz.prog 56 #[.string (T.extract nn T.size), .string ⟨#[125]⟩] W fun e w' => e = .returned (.bool hz) ∧ w' = W := fun W => by rw [← hhz]; exact cP W
        have cP2 : ∀ W, Calls Tryz.prog 56 #[.string (T.extract nn r.length), .string ⟨#[125]⟩] W fun e w' => e = .returned (.bool hz) ∧ w' = W := by rw [← hTz]; exact cP1
        rw [hiz, hhz]
        have hnz : (nn != 0) = true := by simpa using h0
        have hni : ((nn : Int) == 0) = false := by simp; omega
        have hn0 : (0 : Int) ≤ (nn : Int) := by omega
        have hnT : (nn : Int) ≤ (T.size : Int) := by omega
        have hT0i : (0 : Int) < (T.size : Int) := by omega
        rw [hnz]
        clear cI cP hiz hhz h0 hnz hch
        by_cases hneg : iz < 0
        · rw [decide_eq_true hneg]
          go_enter Tryz.func70, Tryz.ntmps70
          go_wp2_with fail
          go_quiet ((go_at_call 85; exact Calls.quiet_of_same (cC1 _)))
          all_goals
            go_wp2_with (first
              | (go_at_call 61; (with_reducible refine (cN _).mono ?_); rintro e w1 ⟨rfl, hw⟩; have hw := hw.symm; subst hw)
              | (go_at_call 43; (with_reducible refine (cI1 _).mono ?_); rintro e w1 ⟨rfl, hw⟩; have hw := hw.symm; subst hw))
            all_goals
              go_ret
              exact ⟨rfl, _, rfl⟩
        · have HN := hid (decide_eq_false hneg)
          rw [HN.out]
          cases hz
          all_goals
            go_enter Tryz.func70, Tryz.ntmps70
            go_wp2_with fail
            go_quiet ((go_at_call 85; exact Calls.quiet_of_same (cC1 _)))
            all_goals
              go_wp2_with (first
                | (go_at_call 61; (with_reducible refine (cN _).mono ?_); rintro e w1 ⟨rfl, hw⟩; have hw := hw.symm; subst hw)
                | (go_at_call 43; (with_reducible refine (cI1 _).mono ?_); rintro e w1 ⟨rfl, hw⟩; have hw := hw.symm; subst hw)
                | (go_at_call 56; (with_reducible refine (cP1 _).mono ?_); rintro e w1 ⟨rfl, hw⟩; have hw := hw.symm; subst hw)
                | (go_at_call 56; (with_reducible refine (cP2 _).mono ?_); rintro e w1 ⟨rfl, hw⟩; have hw := hw.symm; subst hw))
              all_goals
                go_ret
                first
                  | exact ⟨rfl, _, rfl⟩
                  | (refine ⟨?_, _, rfl⟩; show Ending.returned (.bool (decide (iz < 0))) = _; rw [HN.out]; rfl)
  · have hh : Lib.hasPrefix (s.data.toList.drop p) [35] = false := by simpa using hh
    have hcl : countedL (s.data.toList.drop p) = false := by
      obtain ⟨l, hl⟩ : ∃ l, s.data.toList.drop p = l := ⟨_, rfl⟩
      rw [hl] at hh ⊢
      cases l with
      | nil => rfl
      | cons c r =>
        have : (c == 35) = false := by
            unfold Lib.hasPrefix at hh
            simp [List.isPrefixOf] at hh
            simpa using Ne.symm hh
        unfold countedL
        simp [this]
    rw [hcl]
    simp only [hh] at cC
    have cN := fun W => named_any (s.extract p s.size) (s.extract p s.size).size (by rw [ByteArray.size_extract]; omega) (by rw [ByteArray.size_extract]; omega) W
    obtain ⟨R, hR⟩ : ∃ R, s.extract p s.size = R := ⟨_, rfl⟩
    obtain ⟨nn, hnn⟩ : ∃ nn, namedN R.data.toList R.size = nn := ⟨_, rfl⟩
    rw [hR] at cC cN
    rw [hnn] at cN
    have cC1 : ∀ W, Calls Tryz.prog 85 #[.string R, .string ⟨#[35]⟩] W fun e w' => e = .returned (.tuple #[.string R, .bool false]) ∧ w' = W := fun W => by simpa using cC W
    clear hcl hh cC hnn
    go_enter Tryz.func70, Tryz.ntmps70
    go_wp2_with fail
    go_quiet ((go_at_call 85; exact Calls.quiet_of_same (cC1 _)))
    all_goals
      go_wp2_with (first
        | (go_at_call 61; (with_reducible refine (cN _).mono ?_); rintro e w1 ⟨rfl, hw⟩; have hw := hw.symm; subst hw))
      all_goals
        go_ret
        exact ⟨rfl, _, rfl⟩
end Go.Proofs.YtialepcdbpofkaaGreat
namespace Go.Proofs.YtialepcdbpofkaaGreat
open Go.RowKit
open Go.Lib (hid)
def ParsedOk (s : ByteArray) (bash : Bool) (fr en : Nat) : Prop := ∀ (B p d : Nat) (w : World), LRd w B s bash p d →
  Calls Tryz.prog 69 #[.pointer (some ⟨B, 0, none⟩), .int .i64 fr, .int .i64 en] w fun e w' => Below w.heap.size w w' ∧ ∃ A c v0 v1 v2 n3, e = .returned (.agg #[v0, v1, v2, .slice A n3 c]) ∧ #[v0, v1, v2, .slice A n3 c].all (·.oneCell') = true
def ParsedErr (s : ByteArray) (bash : Bool) (fr en : Nat) (e0 : Fe) (pl : Nat) : Prop := ∀ (B p d : Nat) (w : World), LRd w B s bash p d →
  Calls Tryz.prog 69 #[.pointer (some ⟨B, 0, none⟩), .int .i64 fr, .int .i64 en] w fun e w' => e = .panicked [faultL e0 pl] ∧ Below w.heap.size w w'
theorem one_texts {w : World} {g : Nat} {x : List UInt8} (h : w.heap[g]? = some (.cells #[encS x] 9 (0, 0))) : TextsP w (fun _ => True) (some ⟨g, 0, none⟩) [x] := fun k hk => by
  obtain rfl : k = 0 := by simpa using hk
  exact ⟨g, 0, rfl, trivial, by rw [Lib.cell_of_heap h]; rfl⟩
theorem want1_ok (x : List UInt8) (s : ByteArray) (bash : Bool) (p d : Nat) (hs : s.size ≤ 281474976710656) (hp : p ≤ s.size) (B g : Nat) (w : World) (hr : LRd w B s bash p d) (hg : w.heap[g]? = some (.cells #[encS x] 9 (0, 0)))
    (hx : Lib.hasPrefix (s.data.toList.drop p) x = true) :
    Calls Tryz.prog 68 #[.pointer (some ⟨B, 0, none⟩), .slice (some ⟨g, 0, none⟩) 1 1] w fun e w' => e = .returned (encS x) ∧ KF (fun k => k = B) w w' ∧ LRd w' B s bash (p + x.length) d :=
  want_ok s bash p d (some ⟨g, 0, none⟩) 1 [x] x hs hp (by simp) B w hr (one_texts hg) (by simp [List.find?, hx])
theorem want1_err (x : List UInt8) (s : ByteArray) (bash : Bool) (p d : Nat) (hs : s.size ≤ 281474976710656) (hp : p ≤ s.size) (hx : Lib.hasPrefix (s.data.toList.drop p) x = false) : ∃ (e0 : Fe) (q : Nat), e0.e ≠ 0 ∧ ∀ (B g : Nat) (w : World), LRd w B s bash p d → w.heap[g]? = some (.cells #[encS x] 9 (0, 0)) →
    Calls Tryz.prog 68 #[.pointer (some ⟨B, 0, none⟩), .slice (some ⟨g, 0, none⟩) 1 1] w fun e w' => e = .panicked [faultL e0 q] ∧ Below w.heap.size w w' := by
  by_cases hy : Lib.hasPrefix x (s.data.toList.drop p) = true
  · refine ⟨8, s.size, by decide, fun B g w hr hg => ?_⟩
    have h := want_err s bash p d (some ⟨g, 0, none⟩) 1 [x] hs hp (by simp) B w hr (one_texts hg) (by simp [List.find?, hx])
    rw [if_pos (by simp [List.find?, hy])] at h
    exact h
  · refine ⟨33, p, by decide, fun B g w hr hg => ?_⟩
    have h := want_err s bash p d (some ⟨g, 0, none⟩) 1 [x] hs hp (by simp) B w hr (one_texts hg) (by simp [List.find?, hx])
    rw [if_neg (by simp [List.find?, hy])] at h
    exact h
def PartPost (B : Nat) (s : ByteArray) (bash : Bool) (p' d : Nat) (w : World) (pt0 : Pt) (e : Ending) (w' : World) : Prop := ∃ pt, shP pt = pt0 ∧ e = .returned (aggP pt) ∧ KF (fun k => k = B) w w' ∧ LRd w' B s bash p' d
def PartBad (B : Nat) (w : World) (e0 : Fe) (q : Nat) (e : Ending) (w' : World) : Prop := e = .panicked [faultL e0 q] ∧ KF (fun k => k = B) w w'
theorem part_sz : (Tryz.prog.info? 34).map (·.size) = some 10 := by kernel_rfl
theorem cellsPt_all (p : Pt) : (cellsPt p).toArray.all (·.oneCell') = true := Array.all_eq_true_iff_forall_mem.2 fun v hv => cellsPt_one p v (by simpa using hv)
theorem ret_part {fn : Func} {p : Tmp} (h : fn.results = #[.cell p 34]) {R : Ending → World → Prop} {a : Act} {w : World} {g : Nat} {pt : Pt} (hp : a.tmps.getD p undef = .pointer (some ⟨g, 0, none⟩))
    (hh : w.heap[g]? = some (.cells (cellsPt pt).toArray 34 (0, 0))) (hd : a.defers = []) (hR : R (.returned (aggP pt)) w) : bodyPost Tryz.prog fn R .ret a w :=
  bodyPost_ret (results_cell_row h _ _ g 34 (cellsPt pt).toArray (0, 0) _ hp hh Tryz.underlying34 rfl part_sz) hd hR
theorem KF.row {F : Nat → Prop} {a w : World} (h : KF F a w) {b : Nat} (hb : F b ∨ a.heap.size ≤ b) (cs : Array Value) : KF F a (w.setRow b cs) :=
  ⟨h.os, h.tape, h.output, by rw [setRow_size]; exact h.size, fun i hi hn => (setRow_other w b i cs (by rintro rfl; rcases hb with hb | hb; exact hn hb; omega)).trans (h.block i hi hn)⟩
theorem LRd.row {w : World} {B p d b : Nat} {s : ByteArray} {bash : Bool} (h : LRd w B s bash p d) (hb : B ≠ b) (cs : Array Value) : LRd (w.setRow b cs) B s bash p d := (setRow_other w b B cs hb).trans h
def sumPt (q : Bool) : Pt := ⟨4, [], [], [], q, .no, .no, .no, .no, 0⟩
set_option maxRecDepth 100000 in
set_option maxHeartbeats 4000000 in
theorem sum_ok (s : ByteArray) (bash : Bool) (p d r n : Nat) (q : Bool) (hs : s.size ≤ 137438953472) (hp : p + 3 ≤ s.size) (h : Cl s n (p + 3) 0 r 0) (hle : p + 3 ≤ r) (hrs : r < s.size)
    (hx : Lib.hasPrefix (s.data.toList.drop (r + 1)) [41] = true) (hP : ParsedOk s bash (p + 3) r) (B : Nat) (w : World) (hr : LRd w B s bash p d) :
    Calls Tryz.prog 58 #[.pointer (some ⟨B, 0, none⟩), .bool q] w (PartPost B s bash (r + 2) d w (sumPt q)) := by
  have hBw := hr.lt
  have hb0 : Below w.heap.size w (w.alloc zeroO) := (Below.refl _ _).alloc (Nat.le_refl _) _
  have hz0 : (w.alloc zeroO).heap[w.heap.size]? = some zeroO := heap_alloc_new w zeroO
  have hr0 := hr.below hb0
  have cC := closedR_ok s bash p d (p + 3) r n (by omega) hp h B (w.alloc zeroO) hr0
  have c1 := hr0.c1
  have f1 := hr0.free 1
  have hp3 : ((p + 3 : Nat) : Int) = (p : Int) + 3 := by omega
  have hri : (r : Int) < (s.size : Int) := by omega
  have hp0 : (0 : Int) ≤ (p : Int) := by omega
  have hr00 : (0 : Int) ≤ (r : Int) := by omega
  have hsi : (s.size : Int) ≤ 137438953472 := by omega
  have hpi : (p : Int) + 3 ≤ (r : Int) := by omega
  simp only [hp3] at cC
  have HP := hid hP
  -- the reader behind the list's end, a slice of one text built
  have HW : Hid (∀ m, KF (fun k => k = B) w ((((w.alloc zeroO).drewN m).setCell ⟨B, 1, none⟩ (.int .i64 ((r : Int) + 1))).alloc (.cells #[encS [41]] 9)) ∧ LRd ((((w.alloc zeroO).drewN m).setCell ⟨B, 1, none⟩ (.int .i64 ((r : Int) + 1))).alloc (.cells #[encS [41]] 9)) B s bash (r + 1) d ∧ ((((w.alloc zeroO).drewN m).setCell ⟨B, 1, none⟩ (.int .i64 ((r : Int) + 1))).alloc (.cells #[encS [41]] 9)).heap[w.heap.size]? = some zeroO ∧
      ((((w.alloc zeroO).drewN m).setCell ⟨B, 1, none⟩ (.int .i64 ((r : Int) + 1))).alloc (.cells #[encS [41]] 9)).heap[w.heap.size + 1]? = some (.cells #[encS [41]] 9 (0, 0))) := hid fun m => by
    have h3 : LRd (((w.alloc zeroO).drewN m).setCell ⟨B, 1, none⟩ (.int .i64 ((r : Int) + 1))) B s bash (r + 1) d := LRd.at_ (w := (w.alloc zeroO).drewN m) (p := p) hr0 (r + 1)
    have hz3 : (((w.alloc zeroO).drewN m).setCell ⟨B, 1, none⟩ (.int .i64 ((r : Int) + 1))).heap[w.heap.size]? = some zeroO := by
      rw [heap_setCell_other _ _ _ _ (by show w.heap.size ≠ B; omega)]
      exact hz0
    have k3 : KF (fun k => k = B) w (((w.alloc zeroO).drewN m).setCell ⟨B, 1, none⟩ (.int .i64 ((r : Int) + 1))) := (((KF.refl (fun k => k = B) w).alloc zeroO).drewN m).set (.inl rfl) 1 _
    have hsz : (((w.alloc zeroO).drewN m).setCell ⟨B, 1, none⟩ (.int .i64 ((r : Int) + 1))).heap.size = w.heap.size + 1 := by
      show ((w.alloc zeroO).setCell ⟨B, 1, none⟩ (.int .i64 ((r : Int) + 1))).heap.size = _
      simp [World.setCell]
    have hnew := heap_alloc_new (((w.alloc zeroO).drewN m).setCell ⟨B, 1, none⟩ (.int .i64 ((r : Int) + 1))) (.cells #[encS [41]] 9)
    rw [hsz] at hnew
    refine ⟨k3.alloc _, h3.below ((Below.refl _ _).alloc (Nat.le_refl _) _), (Below.heap_alloc _ _ _ (by rw [hsz]; omega)).trans hz3, hnew⟩
  have cW := fun (W : World) (hl : LRd W B s bash (r + 1) d) (hg : W.heap[w.heap.size + 1]? = some (.cells #[encS [41]] 9 (0, 0))) => want1_ok [41] s bash (r + 1) d (by omega) (by omega) B (w.heap.size + 1) W hl hg hx
  clear h hx hP hz0 hr0 hb0
  go_enter Tryz.func58, Tryz.ntmps58
  go_wp2_with (first
    | (go_at_call 63; (with_reducible refine cC.mono ?_); rintro e w1 ⟨rfl, m, rfl⟩)
    | (go_at_call 68; obtain ⟨hkw, hlw, hzw, hgw⟩ := HW.out m; (with_reducible refine (cW _ hlw hgw).mono ?_); rintro e w2 ⟨rfl, hk2, hr2⟩; have HK2 := hid (hkw.trans hk2 (fun g hg => .inl hg)); have HZ2 := hid ((hk2.block _ (lt_of_block hzw) (by show ¬ w.heap.size = B; omega)).trans hzw); have cP := HP.out B _ d w2 hr2; have HR2 := hid hr2; simp only [hp3] at cP; clear hkw hlw hzw hgw hk2 hr2)
    | (go_at_call 69; (with_reducible refine cP.mono ?_); rintro e w3 ⟨hb3, A, c, v0, v1, v2, n3, rfl, hone⟩; have HB3 := hid (And.intro hb3 hone); clear hb3 hone)
    | (refine wpList_store_row rfl 34 _ _ rfl w.heap.size (cellsPt ⟨4, [], [], [], q, .no, .no, ⟨some ⟨w3.heap.size, 0, none⟩, 1, 1⟩, .no, 0⟩).toArray rfl rfl _ _ ((Below.heap_alloc _ _ _ (by have := lt_of_block (heap_below' HZ2.out HB3.out.1); omega)).trans (heap_below' HZ2.out HB3.out.1)) part_sz rfl (cellsPt_all _) ?_))
  have hz3 := heap_below' HZ2.out HB3.out.1
  have hne : w.heap.size < w3.heap.size := lt_of_block hz3
  refine ret_part (pt := ⟨4, [], [], [], q, .no, .no, ⟨some ⟨w3.heap.size, 0, none⟩, 1, 1⟩, .no, 0⟩) rfl rfl (setRow_heap _ _ _ _ _ _ ((Below.heap_alloc _ _ _ hne).trans hz3)) rfl ⟨_, rfl, rfl, ?_, ?_⟩
  · exact ((HK2.out.trans (KF.of_below (F := fun _ => False) HB3.out.1) (fun _ h => h.elim)).alloc _).row (.inr (Nat.le_refl _)) _
  · exact LRd.row ((HR2.out.below HB3.out.1).below ((Below.refl _ _).alloc (Nat.le_refl _) _)) (by omega) _
set_option maxRecDepth 100000 in
set_option maxHeartbeats 4000000 in
theorem sum_err1 (s : ByteArray) (bash : Bool) (p d r n : Nat) (q : Bool) (hs : s.size ≤ 137438953472) (hp : p + 3 ≤ s.size) (h : Cl s n (p + 3) 0 r 8) (B : Nat) (w : World) (hr : LRd w B s bash p d) :
    Calls Tryz.prog 58 #[.pointer (some ⟨B, 0, none⟩), .bool q] w (PartBad B w 8 r) := by
  have hb0 : Below w.heap.size w (w.alloc zeroO) := (Below.refl _ _).alloc (Nat.le_refl _) _
  have hr0 := hr.below hb0
  have cC := closedR_err s bash p d (p + 3) r n (by omega) hp h B (w.alloc zeroO) hr0
  have c1 := hr0.c1
  have hp3 : ((p + 3 : Nat) : Int) = (p : Int) + 3 := by omega
  have hp0 : (0 : Int) ≤ (p : Int) := by omega
  have hpi : (p : Int) + 3 ≤ 137438953472 := by omega
  simp only [hp3] at cC
  have HB0 := hid hb0
  clear h hb0 hr0
  go_enter Tryz.func58, Tryz.ntmps58
  go_wp2_with (go_at_call 63; (with_reducible refine cC.mono ?_); rintro e w1 ⟨rfl, hb1⟩)
  exact ⟨rfl, rfl, KF.of_below (HB0.out.trans (hb1.mono HB0.out.size))⟩
set_option maxRecDepth 100000 in
set_option maxHeartbeats 4000000 in
theorem sum_err2 (s : ByteArray) (bash : Bool) (p d r n : Nat) (q : Bool) (hs : s.size ≤ 137438953472) (hp : p + 3 ≤ s.size) (h : Cl s n (p + 3) 0 r 0) (hle : p + 3 ≤ r) (hrs : r < s.size)
    (e0 : Fe) (q0 : Nat) (hx : ∀ (B g : Nat) (w : World), LRd w B s bash (r + 1) d → w.heap[g]? = some (.cells #[encS [41]] 9 (0, 0)) →
      Calls Tryz.prog 68 #[.pointer (some ⟨B, 0, none⟩), .slice (some ⟨g, 0, none⟩) 1 1] w fun e w' => e = .panicked [faultL e0 q0] ∧ Below w.heap.size w w')
    (B : Nat) (w : World) (hr : LRd w B s bash p d) :
    Calls Tryz.prog 58 #[.pointer (some ⟨B, 0, none⟩), .bool q] w (PartBad B w e0 q0) := by
  have hBw := hr.lt
  have hb0 : Below w.heap.size w (w.alloc zeroO) := (Below.refl _ _).alloc (Nat.le_refl _) _
  have hz0 : (w.alloc zeroO).heap[w.heap.size]? = some zeroO := heap_alloc_new w zeroO
  have hr0 := hr.below hb0
  have cC := closedR_ok s bash p d (p + 3) r n (by omega) hp h B (w.alloc zeroO) hr0
  have c1 := hr0.c1
  have f1 := hr0.free 1
  have hp3 : ((p + 3 : Nat) : Int) = (p : Int) + 3 := by omega
  have hri : (r : Int) < (s.size : Int) := by omega
  have hp0 : (0 : Int) ≤ (p : Int) := by omega
  have hr00 : (0 : Int) ≤ (r : Int) := by omega
  have hsi : (s.size : Int) ≤ 137438953472 := by omega
  have hpi : (p : Int) + 3 ≤ (r : Int) := by omega
  simp only [hp3] at cC
  -- the reader behind the list's end, a slice of one text built
  have HW : Hid (∀ m, KF (fun k => k = B) w ((((w.alloc zeroO).drewN m).setCell ⟨B, 1, none⟩ (.int .i64 ((r : Int) + 1))).alloc (.cells #[encS [41]] 9)) ∧ LRd ((((w.alloc zeroO).drewN m).setCell ⟨B, 1, none⟩ (.int .i64 ((r : Int) + 1))).alloc (.cells #[encS [41]] 9)) B s bash (r + 1) d ∧ ((((w.alloc zeroO).drewN m).setCell ⟨B, 1, none⟩ (.int .i64 ((r : Int) + 1))).alloc (.cells #[encS [41]] 9)).heap[w.heap.size]? = some zeroO ∧
      ((((w.alloc zeroO).drewN m).setCell ⟨B, 1, none⟩ (.int .i64 ((r : Int) + 1))).alloc (.cells #[encS [41]] 9)).heap[w.heap.size + 1]? = some (.cells #[encS [41]] 9 (0, 0))) := hid fun m => by
    have h3 : LRd (((w.alloc zeroO).drewN m).setCell ⟨B, 1, none⟩ (.int .i64 ((r : Int) + 1))) B s bash (r + 1) d := LRd.at_ (w := (w.alloc zeroO).drewN m) (p := p) hr0 (r + 1)
    have hz3 : (((w.alloc zeroO).drewN m).setCell ⟨B, 1, none⟩ (.int .i64 ((r : Int) + 1))).heap[w.heap.size]? = some zeroO := by
      rw [heap_setCell_other _ _ _ _ (by show w.heap.size ≠ B; omega)]
      exact hz0
    have k3 : KF (fun k => k = B) w (((w.alloc zeroO).drewN m).setCell ⟨B, 1, none⟩ (.int .i64 ((r : Int) + 1))) := (((KF.refl (fun k => k = B) w).alloc zeroO).drewN m).set (.inl rfl) 1 _
    have hsz : (((w.alloc zeroO).drewN m).setCell ⟨B, 1, none⟩ (.int .i64 ((r : Int) + 1))).heap.size = w.heap.size + 1 := by
      show ((w.alloc zeroO).setCell ⟨B, 1, none⟩ (.int .i64 ((r : Int) + 1))).heap.size = _
      simp [World.setCell]
    have hnew := heap_alloc_new (((w.alloc zeroO).drewN m).setCell ⟨B, 1, none⟩ (.int .i64 ((r : Int) + 1))) (.cells #[encS [41]] 9)
    rw [hsz] at hnew
    refine ⟨k3.alloc _, h3.below ((Below.refl _ _).alloc (Nat.le_refl _) _), (Below.heap_alloc _ _ _ (by rw [hsz]; omega)).trans hz3, hnew⟩
  have cW := fun (W : World) (hl : LRd W B s bash (r + 1) d) (hg : W.heap[w.heap.size + 1]? = some (.cells #[encS [41]] 9 (0, 0))) => hx B (w.heap.size + 1) W hl hg
  clear h hx hz0 hr0 hb0
  go_enter Tryz.func58, Tryz.ntmps58
  go_wp2_with (first
    | (go_at_call 63; (with_reducible refine cC.mono ?_); rintro e w1 ⟨rfl, m, rfl⟩)
    | (go_at_call 68; obtain ⟨hkw, hlw, -, hgw⟩ := HW.out m; (with_reducible refine (cW _ hlw hgw).mono ?_); rintro e w2 ⟨rfl, hb2⟩))
  exact ⟨rfl, rfl, hkw.trans (KF.of_below (F := fun _ => False) hb2) (fun _ h => h.elim)⟩
set_option maxRecDepth 100000 in
set_option maxHeartbeats 4000000 in
theorem sum_err3 (s : ByteArray) (bash : Bool) (p d r n : Nat) (q : Bool) (hs : s.size ≤ 137438953472) (hp : p + 3 ≤ s.size) (h : Cl s n (p + 3) 0 r 0) (hle : p + 3 ≤ r) (hrs : r < s.size)
    (hx : Lib.hasPrefix (s.data.toList.drop (r + 1)) [41] = true) (e0 : Fe) (q0 : Nat) (hP : ParsedErr s bash (p + 3) r e0 q0) (B : Nat) (w : World) (hr : LRd w B s bash p d) :
    Calls Tryz.prog 58 #[.pointer (some ⟨B, 0, none⟩), .bool q] w (PartBad B w e0 q0) := by
  have hBw := hr.lt
  have hb0 : Below w.heap.size w (w.alloc zeroO) := (Below.refl _ _).alloc (Nat.le_refl _) _
  have hz0 : (w.alloc zeroO).heap[w.heap.size]? = some zeroO := heap_alloc_new w zeroO
  have hr0 := hr.below hb0
  have cC := closedR_ok s bash p d (p + 3) r n (by omega) hp h B (w.alloc zeroO) hr0
  have c1 := hr0.c1
  have f1 := hr0.free 1
  have hp3 : ((p + 3 : Nat) : Int) = (p : Int) + 3 := by omega
  have hri : (r : Int) < (s.size : Int) := by omega
  have hp0 : (0 : Int) ≤ (p : Int) := by omega
  have hr00 : (0 : Int) ≤ (r : Int) := by omega
  have hsi : (s.size : Int) ≤ 137438953472 := by omega
  have hpi : (p : Int) + 3 ≤ (r : Int) := by omega
  simp only [hp3] at cC
  have HP := hid hP
  -- the reader behind the list's end, a slice of one text built
  have HW : Hid (∀ m, KF (fun k => k = B) w ((((w.alloc zeroO).drewN m).setCell ⟨B, 1, none⟩ (.int .i64 ((r : Int) + 1))).alloc (.cells #[encS [41]] 9)) ∧ LRd ((((w.alloc zeroO).drewN m).setCell ⟨B, 1, none⟩ (.int .i64 ((r : Int) + 1))).alloc (.cells #[encS [41]] 9)) B s bash (r + 1) d ∧ ((((w.alloc zeroO).drewN m).setCell ⟨B, 1, none⟩ (.int .i64 ((r : Int) + 1))).alloc (.cells #[encS [41]] 9)).heap[w.heap.size]? = some zeroO ∧
      ((((w.alloc zeroO).drewN m).setCell ⟨B, 1, none⟩ (.int .i64 ((r : Int) + 1))).alloc (.cells #[encS [41]] 9)).heap[w.heap.size + 1]? = some (.cells #[encS [41]] 9 (0, 0))) := hid fun m => by
    have h3 : LRd (((w.alloc zeroO).drewN m).setCell ⟨B, 1, none⟩ (.int .i64 ((r : Int) + 1))) B s bash (r + 1) d := LRd.at_ (w := (w.alloc zeroO).drewN m) (p := p) hr0 (r + 1)
    have hz3 : (((w.alloc zeroO).drewN m).setCell ⟨B, 1, none⟩ (.int .i64 ((r : Int) + 1))).heap[w.heap.size]? = some zeroO := by
      rw [heap_setCell_other _ _ _ _ (by show w.heap.size ≠ B; omega)]
      exact hz0
    have k3 : KF (fun k => k = B) w (((w.alloc zeroO).drewN m).setCell ⟨B, 1, none⟩ (.int .i64 ((r : Int) + 1))) := (((KF.refl (fun k => k = B) w).alloc zeroO).drewN m).set (.inl rfl) 1 _
    have hsz : (((w.alloc zeroO).drewN m).setCell ⟨B, 1, none⟩ (.int .i64 ((r : Int) + 1))).heap.size = w.heap.size + 1 := by
      show ((w.alloc zeroO).setCell ⟨B, 1, none⟩ (.int .i64 ((r : Int) + 1))).heap.size = _
      simp [World.setCell]
    have hnew := heap_alloc_new (((w.alloc zeroO).drewN m).setCell ⟨B, 1, none⟩ (.int .i64 ((r : Int) + 1))) (.cells #[encS [41]] 9)
    rw [hsz] at hnew
    refine ⟨k3.alloc _, h3.below ((Below.refl _ _).alloc (Nat.le_refl _) _), (Below.heap_alloc _ _ _ (by rw [hsz]; omega)).trans hz3, hnew⟩
  have cW := fun (W : World) (hl : LRd W B s bash (r + 1) d) (hg : W.heap[w.heap.size + 1]? = some (.cells #[encS [41]] 9 (0, 0))) => want1_ok [41] s bash (r + 1) d (by omega) (by omega) B (w.heap.size + 1) W hl hg hx
  clear h hx hP hz0 hr0 hb0
  go_enter Tryz.func58, Tryz.ntmps58
  go_wp2_with (first
    | (go_at_call 63; (with_reducible refine cC.mono ?_); rintro e w1 ⟨rfl, m, rfl⟩)
    | (go_at_call 68; obtain ⟨hkw, hlw, hzw, hgw⟩ := HW.out m; (with_reducible refine (cW _ hlw hgw).mono ?_); rintro e w2 ⟨rfl, hk2, hr2⟩; have HK2 := hid (hkw.trans hk2 (fun g hg => .inl hg)); have cP := HP.out B _ d w2 hr2; simp only [hp3] at cP; clear hkw hlw hzw hgw hk2 hr2)
    | (go_at_call 69; (with_reducible refine cP.mono ?_); rintro e w3 ⟨rfl, hb3⟩))
  exact ⟨rfl, rfl, HK2.out.trans (KF.of_below (F := fun _ => False) hb3) (fun _ h => h.elim)⟩
theorem sum_res (hPar : ∀ (s : ByteArray) (bash : Bool) (fr en : Nat), s.size ≤ 137438953472 → fr ≤ en → en ≤ s.size → ParsedOk s bash fr en ∨ ∃ e0 pl, e0.e ≠ 0 ∧ ParsedErr s bash fr en e0 pl) (s : ByteArray) (bash : Bool) (p d : Nat) (q : Bool) (hs : s.size ≤ 137438953472) (hp : p + 3 ≤ s.size) :
    (∃ p', p + 5 ≤ p' ∧ p' ≤ s.size ∧ ∀ B w, LRd w B s bash p d → Calls Tryz.prog 58 #[.pointer (some ⟨B, 0, none⟩), .bool q] w (PartPost B s bash p' d w (sumPt q))) ∨
    ∃ e0 q0, e0.e ≠ 0 ∧ ∀ B w, LRd w B s bash p d → Calls Tryz.prog 58 #[.pointer (some ⟨B, 0, none⟩), .bool q] w (PartBad B w e0 q0) := by
  obtain ⟨n, r, e, hcl, ⟨rfl, h1, h2⟩ | ⟨rfl, h1⟩⟩ := cl_any s (by omega) s.size (p + 3) 0 (by omega) hp
  · by_cases hx : Lib.hasPrefix (s.data.toList.drop (r + 1)) [41] = true
    · have hl := hasPre_len hx
      rw [List.length_drop, len_toList] at hl
      simp only [List.length_cons, List.length_nil] at hl
      rcases hPar s bash (p + 3) r hs h1 (by omega) with hP | ⟨e0, q0, hne, hP⟩
      · exact .inl ⟨r + 2, by omega, by omega, fun B w hr => sum_ok s bash p d r n q hs hp hcl h1 h2 hx hP B w hr⟩
      · exact .inr ⟨e0, q0, hne, fun B w hr => sum_err3 s bash p d r n q hs hp hcl h1 h2 hx e0 q0 hP B w hr⟩
    · obtain ⟨e0, q0, hne, hW⟩ := want1_err [41] s bash (r + 1) d (by omega) (by omega) (by simpa using hx)
      exact .inr ⟨e0, q0, hne, fun B w hr => sum_err2 s bash p d r n q hs hp hcl h1 h2 e0 q0 hW B w hr⟩
  · exact .inr ⟨8, r, by decide, fun B w hr => sum_err1 s bash p d r n q hs hp hcl B w hr⟩
end Go.Proofs.YtialepcdbpofkaaGreat
namespace Go.Proofs.YtialepcdbpofkaaGreat
open Go.RowKit
open Go.Lib (hid)
set_option maxRecDepth 100000 in
set_option maxHeartbeats 2000000 in
theorem grow_any (n : Nat) (h0 : 0 < n) (hn : n ≤ 1000) (w : World) : Calls Tryz.prog 107 #[.slice none 0 0, .int .i64 n] w fun e w' => ∃ g cap, e = .returned (.slice (some ⟨g, 0, none⟩) 0 cap) ∧ w'.ownsRow w.heap.size 9 1 (.slice (some ⟨g, 0, none⟩) 0 cap) 0 [] ∧ Below w.heap.size w w' := by
  obtain ⟨i0, hi, hz0, hz1, hz2⟩ := info_parts info_str
  have hn0 : ¬ (n : Int) < 0 := by omega
  have hn1 : (0 : Int) < (n : Int) := by omega
  have hni : (n : Int) ≤ 1000 := by omega
  have hap := Lib.run_append_nil_zeros w 40 3 40 9 i0 _ .i64 .i64 Tryz.underlying40 Tryz.underlying3 hi hz0 n h0 (by rw [hz1]; decide) (by omega) (by rw [hz2]; omega)
  have hge := grownCap_ge w n 0 9
  have hle := grownCap_le_maxLen w n 0 9 (by unfold maxLen; omega)
  obtain ⟨cap, hcap⟩ : ∃ cap, grownCap w n 0 9 = cap := ⟨_, rfl⟩
  rw [hcap] at hap hge hle
  have hown := World.ownsRow_made (base := w.heap.size) (e := 9) (size := 1) w.drew (Builtin.zeroCells (Value.string .empty).cells n ++ Builtin.zeroCells (Value.string .empty).cells (cap - n)) cap (Nat.le_refl _) hle (by simp [Builtin.zeroCells, Value.cells]; omega)
  have hb : Below w.heap.size w (w.drew.alloc (.cells (Builtin.zeroCells (Value.string .empty).cells n ++ Builtin.zeroCells (Value.string .empty).cells (cap - n)) 9)) := (below_drewN (Below.refl _ w) 1).alloc (Nat.le_refl _) _
  have HB := hid (And.intro hown hb)
  have hci : (0 : Int) ≤ (cap : Int) := by omega
  have hnc : (n : Int) ≤ (cap : Int) := by omega
  clear hown hb hcap hz0 hz1 hz2 hge
  unfold maxLen at hle
  go_enter Tryz.func107, Tryz.ntmps107
  go_wp2_with (at_builtin; refine Lib.wpList_append_run _ rfl _ _ _ _ rfl _ _ rfl rfl _ _ hap ?_)
  go_ret
  exact ⟨_, _, rfl, HB.out.1, HB.out.2⟩
def catN (a b : List (List UInt8)) : Nat → List (List UInt8)
  | 0 => []
  | 1 => a
  | _ => a ++ b
set_option maxRecDepth 100000 in
set_option maxHeartbeats 4000000 in
theorem concat_any (a b : List (List UInt8)) (ha0 : 0 < a.length) (ha : a.length ≤ 100) (hb : b.length ≤ 100) (h g1 g2 : Nat) (w : World)
    (hh : w.heap[h]? = some (.cells #[.slice (some ⟨g1, 0, none⟩) a.length a.length, .slice (some ⟨g2, 0, none⟩) b.length b.length] 40 (0, 0)))
    (h1 : w.heap[g1]? = some (.cells (a.map encS).toArray 9 (0, 0))) (h2 : w.heap[g2]? = some (.cells (b.map encS).toArray 9 (0, 0))) :
    Calls Tryz.prog 100 #[.slice (some ⟨h, 0, none⟩) 2 2] w fun e w' => ∃ A c, e = .returned (.slice A (a ++ b).length c) ∧ TextsP w' (fun _ => True) A (a ++ b) ∧ Below w.heap.size w w' := by
  obtain ⟨i0, hi, hz0, hz1, hz2⟩ := info_parts info_str
  obtain ⟨n, hn⟩ : ∃ n, a.length = n := ⟨_, rfl⟩
  obtain ⟨m, hm⟩ : ∃ m, b.length = m := ⟨_, rfl⟩
  rw [hn] at hh ha ha0
  rw [hm] at hh hb
  have cG := fun W => grow_any (n + m) (by omega) (by omega) W
  have HH := hid (And.intro hh (And.intro h1 h2))
  have HNM := hid (And.intro hn hm)
  have x0 : w.cell? ⟨h, 0, none⟩ = some (.slice (some ⟨g1, 0, none⟩) n n) := by rw [Lib.cell_of_heap hh]; rfl
  have x1 : w.cell? ⟨h, 1, none⟩ = some (.slice (some ⟨g2, 0, none⟩) m m) := by rw [Lib.cell_of_heap hh]; rfl
  have hni : (n : Int) ≤ 100 := by omega
  have hmi : (m : Int) ≤ 100 := by omega
  have hn0 : (0 : Int) ≤ (n : Int) := by omega
  have hm0 : (0 : Int) ≤ (m : Int) := by omega
  clear hh h1 h2 hn hm
  go_enter Tryz.func100, Tryz.ntmps100
  go_wp2_with fail
  go_loopw [3, 11] (fun sz vi wr => (vi = .int .i64 0 ∧ sz = .int .i64 0 ∨ vi = .int .i64 1 ∧ sz = .int .i64 n ∨ vi = .int .i64 2 ∧ sz = .int .i64 (n + m)) ∧ wr = w) (fun _ vi _ => 2 - (intOf vi).toNat)
  case atStart => exact ⟨.inl ⟨rfl, rfl⟩, rfl⟩
  case round =>
    obtain ⟨⟨rfl, rfl⟩ | ⟨rfl, rfl⟩ | ⟨rfl, rfl⟩, hwr⟩ := hrel
    all_goals
      have hwr := hwr.symm
      subst hwr
    · go_wp2_with fail
      go_roundw
      case rel => exact ⟨.inr (.inl ⟨by go_num, by go_num⟩), trivial⟩
      case measure => simp [intOf]
    · go_wp2_with fail
      go_roundw
      case rel => exact ⟨.inr (.inr ⟨by go_num, by go_num⟩), trivial⟩
      case measure => simp [intOf]
    · obtain ⟨N, hN⟩ : ∃ N, n + m = N := ⟨_, rfl⟩
      have hnm : (n : Int) + (m : Int) = (N : Int) := by omega
      rw [hnm]
      rw [hN] at cG
      have cG1 := cG w
      clear cG x0 x1
      go_wp2_with (go_at_call 107; (with_reducible refine cG1.mono ?_); rintro e w1 ⟨g, cap, rfl, ho, hb1⟩; have HO := hid (And.intro ho hb1); clear ho hb1)
      go_loopw [6, 27] (fun vs vi wr => ∃ (k : Nat) (A : Option Addr) (c : Nat), k ≤ 2 ∧ vi = .int .i64 k ∧ vs = .slice A (catN a b k).length c ∧ wr.ownsRow w.heap.size 9 1 (.slice A (catN a b k).length c) (catN a b k).length ((catN a b k).map encS) ∧ Below w.heap.size w wr) (fun _ vi _ => 2 - (intOf vi).toNat)
      case atStart => exact ⟨0, _, _, by omega, rfl, rfl, HO.out.1, HO.out.2⟩
      case round =>
        obtain ⟨k, A, c, hk, rfl, rfl, hown, hbw⟩ := hrel
        have hh1 := heap_below' HH.out.1 hbw
        have hn1 := heap_below' HH.out.2.1 hbw
        have hn2 := heap_below' HH.out.2.2 hbw
        have y0 : wr.cell? ⟨h, 0, none⟩ = some (.slice (some ⟨g1, 0, none⟩) n n) := by rw [Lib.cell_of_heap hh1]; rfl
        have y1 : wr.cell? ⟨h, 1, none⟩ = some (.slice (some ⟨g2, 0, none⟩) m m) := by rw [Lib.cell_of_heap hh1]; rfl
        have hone : ∀ (l : List (List UInt8)), ∀ u ∈ l.map encS, u.oneCell' = true := fun l u hu => by
          obtain ⟨x, -, rfl⟩ := List.mem_map.1 hu
          rfl
        have hnews : ∀ {g : Nat} {l : List (List UInt8)}, wr.heap[g]? = some (.cells (l.map encS).toArray 9 (0, 0)) → ∀ j u, (l.map encS)[j]? = some u → wr.cell? ((⟨g, 0, none⟩ : Addr).add j) = some u := fun {g l} hg => World.news_of_block hg
        have H1 : 0 + n ≤ maxLen := by unfold maxLen; omega
        have H2 : (0 + n) * 16 ≤ 140737488355328 := by omega
        have H3 := hbw.size
        have H4 : n + m ≤ maxLen := by unfold maxLen; omega
        have H5 : (n + m) * 16 ≤ 140737488355328 := by omega
        have HE := hid HNM.out
        clear cG1 hN hnm
        have hk3 : k = 0 ∨ k = 1 ∨ k = 2 := by omega
        rcases hk3 with rfl | rfl | rfl
        · have hown0 : wr.ownsRow w.heap.size 9 1 (.slice A 0 c) 0 [] := hown
          have hev : (Value.slice A (catN a b 0).length c) = .slice A 0 c := rfl
          rw [hev]
          clear hown y1
          go_wp2_with (at_builtin; refine wpList_append_own _ rfl _ _ 40 rfl w.heap.size 9 i0 _ 1 16 Tryz.underlying40 hi hz0 hz1 hz2 rfl (by decide) _ _ _ rfl hown0 ⟨g1, 0, none⟩ n n (a.map encS) rfl (by rw [List.length_map, HE.out.1]; omega) (hnews hn1) (hone a) H1 H2 H3 ?_; intro v' W ho2 hg hat; obtain ⟨ap, cp, rfl, -⟩ := own_form ho2)
          go_roundw
          case rel =>
            rw [Nat.zero_add, List.nil_append] at ho2
            refine ⟨1, ap, cp, by omega, by go_num, ?_, ?_, ?_⟩
            · show _ = Value.slice ap a.length cp
              rw [HE.out.1]
            · show W.ownsRow w.heap.size 9 1 (.slice ap a.length cp) a.length (a.map encS)
              rw [HE.out.1]
              exact ho2
            · exact hbw.trans (KF.below ((KF.refl (fun k => Value.ownBlock _ = some k) wr).grown hg (fun k hk => .inl hk)) (fun k hk => (hown0.lt k hk).1) H3)
          case measure => simp [intOf]
        · have hown0 : wr.ownsRow w.heap.size 9 1 (.slice A n c) n (a.map encS) := by rw [← HE.out.1]; exact hown
          have hev : (Value.slice A (catN a b 1).length c) = .slice A n c := by rw [← HE.out.1]; rfl
          rw [hev]
          clear hown y0
          go_wp2_with (at_builtin; refine wpList_append_own _ rfl _ _ 40 rfl w.heap.size 9 i0 _ 1 16 Tryz.underlying40 hi hz0 hz1 hz2 rfl (by decide) _ _ _ rfl hown0 ⟨g2, 0, none⟩ m m (b.map encS) rfl (by rw [List.length_map, HE.out.2]; omega) (hnews hn2) (hone b) H4 H5 H3 ?_; intro v' W ho2 hg hat; obtain ⟨ap, cp, rfl, -⟩ := own_form ho2)
          go_roundw
          case rel =>
            refine ⟨2, ap, cp, by omega, by go_num, ?_, ?_, ?_⟩
            · show _ = Value.slice ap (a ++ b).length cp
              rw [List.length_append, HE.out.1, HE.out.2]
            · show W.ownsRow w.heap.size 9 1 (.slice ap (a ++ b).length cp) (a ++ b).length ((a ++ b).map encS)
              rw [List.length_append, List.map_append, HE.out.1, HE.out.2]
              exact ho2
            · exact hbw.trans (KF.below ((KF.refl (fun k => Value.ownBlock _ = some k) wr).grown hg (fun k hk => .inl hk)) (fun k hk => (hown0.lt k hk).1) H3)
          case measure => simp [intOf]
        · have hown0 : wr.ownsRow w.heap.size 9 1 (.slice A (a ++ b).length c) (a ++ b).length ((a ++ b).map encS) := hown
          have hev : (Value.slice A (catN a b 2).length c) = .slice A (a ++ b).length c := rfl
          rw [hev]
          have HT := hid (TextsP.of_own hown0).any
          have HB := hid hbw
          clear hown hown0 y0 y1 hh1 hn1 hn2 hbw
          go_wp2_with fail
          go_ret
          exact ⟨A, c, rfl, HT.out, HB.out⟩
def opsA : List (List UInt8) := [[125], [58, 45], [58, 61], [58, 63], [58, 43], [35, 35], [37, 37], [45], [61], [63], [43], [35], [37]]
def opsB : List (List UInt8) := [[58], [47, 47], [47], [94, 94], [94], [44, 44], [44], [91, 64, 93], [91, 42, 93], [91]]
def opsL (bash : Bool) : List (List UInt8) := if bash then opsA ++ opsB else opsA
set_option maxRecDepth 100000 in
set_option maxHeartbeats 4000000 in
theorem ops_any (bash : Bool) (w : World) : Calls Tryz.prog 86 #[.bool bash] w fun e w' => ∃ A c, e = .returned (.slice A (opsL bash).length c) ∧ TextsP w' (fun _ => True) A (opsL bash) ∧ Below w.heap.size w w' := by
  have hA := heap_alloc_new w (.cells (opsA.map encS).toArray 9)
  have hb1 : Below w.heap.size w (w.alloc (.cells (opsA.map encS).toArray 9)) := (Below.refl _ _).alloc (Nat.le_refl _) _
  cases bash
  · have HA := hid (And.intro (TextsP.of_own (World.ownsRow_lit (e := 9) (size := 1) (base := w.heap.size) w (opsA.map encS).toArray 13 (Nat.le_refl _) (by decide) rfl)).any hb1)
    clear hA hb1
    go_enter Tryz.func86, Tryz.ntmps86
    go_wp2_with fail
    go_ret
    exact ⟨_, _, rfl, HA.out.1, HA.out.2⟩
  · have hB := heap_alloc_new (w.alloc (.cells (opsA.map encS).toArray 9)) (.cells (opsB.map encS).toArray 9)
    have hb2 := hb1.alloc (by simp) (.cells (opsB.map encS).toArray 9)
    have hA2 := (Below.heap_alloc _ (.cells (opsB.map encS).toArray 9) w.heap.size (by simp)).trans hA
    have hH := heap_alloc_new ((w.alloc (.cells (opsA.map encS).toArray 9)).alloc (.cells (opsB.map encS).toArray 9)) (.cells #[.slice (some ⟨w.heap.size, 0, none⟩) opsA.length opsA.length, .slice (some ⟨w.heap.size + 1, 0, none⟩) opsB.length opsB.length] 40)
    simp only [World.size_alloc] at hB hH
    have hb3 := hb2.alloc (by simp; omega) (.cells #[.slice (some ⟨w.heap.size, 0, none⟩) opsA.length opsA.length, .slice (some ⟨w.heap.size + 1, 0, none⟩) opsB.length opsB.length] 40)
    have hA3 := (Below.heap_alloc _ (.cells #[.slice (some ⟨w.heap.size, 0, none⟩) opsA.length opsA.length, .slice (some ⟨w.heap.size + 1, 0, none⟩) opsB.length opsB.length] 40) w.heap.size (by simp; omega)).trans hA2
    have hB3 := (Below.heap_alloc _ (.cells #[.slice (some ⟨w.heap.size, 0, none⟩) opsA.length opsA.length, .slice (some ⟨w.heap.size + 1, 0, none⟩) opsB.length opsB.length] 40) (w.heap.size + 1) (by simp only [World.size_alloc]; omega)).trans hB
    have cC := concat_any opsA opsB (by decide) (by decide) (by decide) (w.heap.size + 1 + 1) w.heap.size (w.heap.size + 1) _ hH hA3 hB3
    have HB := hid hb3
    clear hA hb1 hB hb2 hA2 hH hb3 hA3 hB3
    go_enter Tryz.func86, Tryz.ntmps86
    go_wp2_with (go_at_call 100; (refine cC.mono ?_); rintro e w1 ⟨A, c, rfl, hT, hb4⟩; have HT := hid (And.intro hT hb4); clear hT hb4)
    go_ret
    exact ⟨_, _, rfl, HT.out.1, HB.out.trans (HT.out.2.mono HB.out.size)⟩
end Go.Proofs.YtialepcdbpofkaaGreat
