
/- The reference's word (of layer 4): a number's digits. No conditions. -/
import Derived.Test.YtckmgcdiclkoeaaGreatDoorPrD
import Derived.Test.YtckmgcdiclkoeaaGreatDoorDrawn
import Derived.Shelf.RegionOpenPlain
import Derived.RegionTactic
namespace Go.Proofs.YtckmgcdiclkoeaaGreatDoor
open Go.RowKit
open Go.Lib (hid)

set_option linter.unusedSimpArgs false in
set_option maxRecDepth 100000 in
set_option maxHeartbeats 1000000 in
theorem rword_any (u : Nat) : u < 18446744073709551616 → ∀ w : World, Calls Tryz.prog 63 #[.int .u64 u] w fun e w' => e = .returned (encS (decD u)) ∧ Below w.heap.size w w' := by
  induction u using Nat.strongRecOn with
  | _ u ih =>
    intro hu w
    by_cases h : u < 10
    · obtain ⟨x, hx⟩ : ∃ x, (u + 48).toUInt8 = x := ⟨_, rfl⟩
      have hxn : x.toNat = u + 48 := by rw [← hx]; exact oct_toNat h
      have hv : (48 : Int) + (u : Int) = (x.toNat : Int) := by omega
      have hE : decD u = [x] := by rw [decD_one h, hx]
      have hlt : (u : Int) < 10 := by omega
      rw [hE]
      obtain ⟨W1, hW1⟩ : ∃ W1, w.alloc (.cells #[.int .u8 x.toNat] 5) = W1 := ⟨_, rfl⟩
      have hb1 : Below w.heap.size w W1 := by rw [← hW1]; exact (Below.refl _ _).alloc (Nat.le_refl _) _
      have hbx : W1.heap[w.heap.size]? = some (.cells #[.int .u8 x.toNat] 5 (0, 0)) := by rw [← hW1]; exact heap_alloc_new _ _
      have hcv := conv_byte W1 w.heap.size x (by simp [World.cell?, hbx])
      have HB1 := hid hb1
      have hw1 : IntKind.u8.wrap ((x.toNat : Nat) : Int) = x.toNat := by
        have := x.toNat_lt
        rw [IntKind.wrap_u8]; omega
      clear hE hx hxn hbx hb1
      go_enter Tryz.func63, Tryz.ntmps63
      go_wp2_with fail
      go_ret
      exact ⟨rfl, HB1.out⟩
    · obtain ⟨x, hx⟩ : ∃ x, (u % 10 + 48).toUInt8 = x := ⟨_, rfl⟩
      have hxn : x.toNat = u % 10 + 48 := by rw [← hx]; exact oct_toNat (by omega)
      have hv : (48 : Int) + (u : Int) % 10 = (x.toNat : Int) := by omega
      obtain ⟨q, hqn⟩ : ∃ q, u / 10 = q := ⟨_, rfl⟩
      have hq : (u : Int) / 10 = (q : Int) := by omega
      have hE := hid (show decD u = decD q ++ [x] by rw [decD_more (by omega), hx, hqn])
      have hlt : ¬ (u : Int) < 10 := by omega
      have cD := fun W => ih q (by omega) (by omega) W
      obtain ⟨y, hy⟩ : ∃ y, decD q ++ [x] = y := ⟨_, rfl⟩
      have HE := hid (hE.out.trans hy)
      have hcat := cat_list (decD q) [x]
      rw [hy] at hcat
      have hdl : (decD q).length ≤ 9223372036854775806 := by
        have h1 : ∀ v : Nat, (decD v).length ≤ v + 1 := fun v => by
          induction v using Nat.strongRecOn with
          | _ v ih =>
            by_cases hv : v < 10
            · rw [decD_one hv]; simp
            · rw [decD_more (by omega), List.length_append, List.length_singleton]
              have := ih (v / 10) (by omega)
              omega
        have := h1 q
        omega
      generalize decD q = z at *
      have hcn : ∀ W : World, (W.alloc (.cells #[.int .u8 x.toNat] 5)).cell? ⟨W.heap.size, 0, none⟩ = some (.int .u8 x.toNat) := fun W => by
        have h1 : (W.alloc (.cells #[.int .u8 x.toNat] 5)).heap[W.heap.size]? = some (.cells #[.int .u8 x.toNat] 5 (0, 0)) := heap_alloc_new _ _
        generalize W.alloc (.cells #[.int .u8 x.toNat] 5) = W1 at *
        simp [World.cell?, h1]
      have hcv : ∀ W : World, (convert 35 9 (.slice (some ⟨W.heap.size, 0, none⟩) 1 1)).run Tryz.prog (W.alloc (.cells #[.int .u8 x.toNat] 5)) = .ok (encS [x]) (W.alloc (.cells #[.int .u8 x.toNat] 5)) := fun W => conv_byte _ _ x (hcn W)
      have hw1 : IntKind.u8.wrap ((x.toNat : Nat) : Int) = x.toNat := by
        have := x.toNat_lt
        rw [IntKind.wrap_u8]; omega
      have hqw : IntKind.u64.wrap (q : Int) = q := by rw [IntKind.wrap_u64]; omega
      have htm : (u : Int).tmod 10 = (u : Int) % 10 := Int.tmod_eq_emod_of_nonneg (by omega)
      have hxw : IntKind.u64.wrap ((x.toNat : Nat) : Int) = x.toNat := by
        have := x.toNat_lt
        rw [IntKind.wrap_u64]; omega
      clear hx hxn ih hE hy hqn
      go_enter Tryz.func63, Tryz.ntmps63
      go_wp2_with fail
      refine wp_region_held_drew (S := fun _ => True) (by kernel_rfl) trivial (fun _ => ?_)
      refine takeH (i := 0) (d := some 10) (v := .int .u64 u) rfl rfl (by kernel_rfl) (by kernel_rfl) (by kernel_rfl) (fun _ _ _ h => h) (Or.inl ⟨by rfl, fun w' _ => by go_simp⟩) trivial ?_
      try simp only [Act.put, List.setIfInBounds_toArray, List.set_cons_zero, List.set_cons_succ]
      refine takeH (i := 1) (d := some 11) (v := .int .u64 q) rfl rfl (by kernel_rfl) (by kernel_rfl) (by kernel_rfl) (fun _ _ _ h => h) (Or.inl ⟨by rfl, fun w' _ => by go_simp⟩) trivial ?_
      try simp only [Act.put, List.setIfInBounds_toArray, List.set_cons_zero, List.set_cons_succ]
      refine takeH (i := 3) (d := some 13) (v := .int .u64 u) rfl rfl (by kernel_rfl) (by kernel_rfl) (by kernel_rfl) (fun _ _ _ h => h) (Or.inl ⟨by rfl, fun w' _ => by go_simp⟩) trivial ?_
      try simp only [Act.put, List.setIfInBounds_toArray, List.set_cons_zero, List.set_cons_succ]
      refine takeH (i := 4) (d := some 14) (v := .int .u64 ((u : Int) % 10)) rfl rfl (by kernel_rfl) (by kernel_rfl) (by kernel_rfl) (fun _ _ _ h => h) (Or.inl ⟨by rfl, fun w' _ => by go_simp⟩) trivial ?_
      try simp only [Act.put, List.setIfInBounds_toArray, List.set_cons_zero, List.set_cons_succ]
      refine takeH (i := 5) (d := some 15) (v := .int .u64 x.toNat) rfl rfl (by kernel_rfl) (by kernel_rfl) (by kernel_rfl) (fun _ _ _ h => h) (Or.inl ⟨by rfl, fun w' _ => by go_simp⟩) trivial ?_
      try simp only [Act.put, List.setIfInBounds_toArray, List.set_cons_zero, List.set_cons_succ]
      refine takeH (i := 6) (d := some 16) (v := .int .u8 x.toNat) rfl rfl (by kernel_rfl) (by kernel_rfl) (by kernel_rfl) (fun _ _ _ h => h) (Or.inl ⟨by rfl, fun w' _ => by go_simp⟩) trivial ?_
      try simp only [Act.put, List.setIfInBounds_toArray, List.set_cons_zero, List.set_cons_succ]
      refine wpAnyH_ready (rs := [2, 7]) (by kernel_rfl) (by simp) (AllReadyH.cons rfl (fun K hK => ?_) (AllReadyH.cons rfl (fun K hK => ?_) AllReadyH.nil))
      · skip
        go_simp
        go_at_call 63
        refine (cD _).mono ?_
        rintro e w3 ⟨rfl, hb3⟩
        have HB3 := hid hb3
        clear hb3
        go_wp2_with fail
        refine hK.out _ _ trivial (fun _ => ?_)
        clear hK K
        try simp only [Act.put, List.setIfInBounds_toArray, List.set_cons_zero, List.set_cons_succ]
        refine wpAnyH_ready (rs := [7]) (by kernel_rfl) (by simp) (AllReadyH.cons rfl (fun K hK => ?_) AllReadyH.nil)
        go_simp
        refine hK.out _ _ trivial (fun _ => ?_)
        clear hK K
        try simp only [Act.put, List.setIfInBounds_toArray, List.set_cons_zero, List.set_cons_succ]
        refine wpAnyH_ready (rs := [8]) (by kernel_rfl) (by simp) (AllReadyH.cons rfl (fun K hK => ?_) AllReadyH.nil)
        have hcw := hcv w3
        go_simp
        refine hK.out _ _ trivial (fun _ => ?_)
        clear hK K
        try simp only [Act.put, List.setIfInBounds_toArray, List.set_cons_zero, List.set_cons_succ]
        have HBE : Hid (Below w.heap.size w (w3.alloc (.cells #[.int .u8 x.toNat] 5))) := hid (((Below.refl _ w).drew.trans HB3.out).alloc HB3.out.size _)
        refine takeH (i := 9) (d := some 19) (v := encS y) rfl rfl (by kernel_rfl) (by kernel_rfl) (by kernel_rfl) (fun _ _ _ h => h) (Or.inl ⟨by rfl, fun w' _ => by go_simp⟩) trivial ?_
        try simp only [Act.put, List.setIfInBounds_toArray, List.set_cons_zero, List.set_cons_succ]
        refine wpAnyH_ready (rs := [10]) (by kernel_rfl) (by simp) (AllReadyH.cons rfl (fun K hK => ?_) AllReadyH.nil)
        go_simp
        refine hK.out _ _ trivial (fun _ => ?_)
        clear hK K
        try simp only [Act.put, List.setIfInBounds_toArray, List.set_cons_zero, List.set_cons_succ]
        refine wpAnyH_done (by kernel_rfl) ?_ _
        go_wp2
        go_ret
        exact ⟨by rw [HE.out]; rfl, HBE.out⟩
      · skip
        go_simp
        refine hK.out _ _ trivial (fun _ => ?_)
        clear hK K
        try simp only [Act.put, List.setIfInBounds_toArray, List.set_cons_zero, List.set_cons_succ]
        refine wpAnyH_ready (rs := [2, 8]) (by kernel_rfl) (by simp) (AllReadyH.cons rfl (fun K hK => ?_) (AllReadyH.cons rfl (fun K hK => ?_) AllReadyH.nil))
        · skip
          go_simp
          go_at_call 63
          refine (cD _).mono ?_
          rintro e w3 ⟨rfl, hb3⟩
          have HB3 := hid hb3
          have hc3 := cell_below hb3 (hcn w.drew)
          have hcw := conv_byte w3 w.heap.size x hc3
          clear hb3
          go_wp2_with fail
          refine hK.out _ _ trivial (fun _ => ?_)
          clear hK K
          try simp only [Act.put, List.setIfInBounds_toArray, List.set_cons_zero, List.set_cons_succ]
          refine wpAnyH_ready (rs := [8]) (by kernel_rfl) (by simp) (AllReadyH.cons rfl (fun K hK => ?_) AllReadyH.nil)
          go_simp
          refine hK.out _ _ trivial (fun _ => ?_)
          clear hK K
          try simp only [Act.put, List.setIfInBounds_toArray, List.set_cons_zero, List.set_cons_succ]
          have HBE : Hid (Below w.heap.size w w3) := hid ((((Below.refl _ w).drew).alloc (Nat.le_refl _) (.cells #[.int .u8 x.toNat] 5)).trans (HB3.out.mono (by simp)))
          refine takeH (i := 9) (d := some 19) (v := encS y) rfl rfl (by kernel_rfl) (by kernel_rfl) (by kernel_rfl) (fun _ _ _ h => h) (Or.inl ⟨by rfl, fun w' _ => by go_simp⟩) trivial ?_
          try simp only [Act.put, List.setIfInBounds_toArray, List.set_cons_zero, List.set_cons_succ]
          refine wpAnyH_ready (rs := [10]) (by kernel_rfl) (by simp) (AllReadyH.cons rfl (fun K hK => ?_) AllReadyH.nil)
          go_simp
          refine hK.out _ _ trivial (fun _ => ?_)
          clear hK K
          try simp only [Act.put, List.setIfInBounds_toArray, List.set_cons_zero, List.set_cons_succ]
          refine wpAnyH_done (by kernel_rfl) ?_ _
          go_wp2
          go_ret
          exact ⟨by rw [HE.out]; rfl, HBE.out⟩
        · skip
          have hcw := conv_byte (w.alloc (.cells #[.int .u8 x.toNat] 5)).drew w.heap.size x (hcn w)
          go_simp
          refine hK.out _ _ trivial (fun _ => ?_)
          clear hK K
          try simp only [Act.put, List.setIfInBounds_toArray, List.set_cons_zero, List.set_cons_succ]
          refine wpAnyH_ready (rs := [2]) (by kernel_rfl) (by simp) (AllReadyH.cons rfl (fun K hK => ?_) AllReadyH.nil)
          go_simp
          go_at_call 63
          refine (cD _).mono ?_
          rintro e w3 ⟨rfl, hb3⟩
          have HB3 := hid hb3
          clear hb3
          go_wp2_with fail
          refine hK.out _ _ trivial (fun _ => ?_)
          clear hK K
          try simp only [Act.put, List.setIfInBounds_toArray, List.set_cons_zero, List.set_cons_succ]
          have HBE : Hid (Below w.heap.size w w3) := hid ((((Below.refl _ w).drew).alloc (Nat.le_refl _) (.cells #[.int .u8 x.toNat] 5)).trans (HB3.out.mono (by simp)))
          refine takeH (i := 9) (d := some 19) (v := encS y) rfl rfl (by kernel_rfl) (by kernel_rfl) (by kernel_rfl) (fun _ _ _ h => h) (Or.inl ⟨by rfl, fun w' _ => by go_simp⟩) trivial ?_
          try simp only [Act.put, List.setIfInBounds_toArray, List.set_cons_zero, List.set_cons_succ]
          refine wpAnyH_ready (rs := [10]) (by kernel_rfl) (by simp) (AllReadyH.cons rfl (fun K hK => ?_) AllReadyH.nil)
          go_simp
          refine hK.out _ _ trivial (fun _ => ?_)
          clear hK K
          try simp only [Act.put, List.setIfInBounds_toArray, List.set_cons_zero, List.set_cons_succ]
          refine wpAnyH_done (by kernel_rfl) ?_ _
          go_wp2
          go_ret
          exact ⟨by rw [HE.out]; rfl, HBE.out⟩
end Go.Proofs.YtckmgcdiclkoeaaGreatDoor
