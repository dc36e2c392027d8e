/- CalcOwn, walked: true of all variables. Conditions: sizes. -/
import Derived.Test.YthgmilllinbcjaaGreatDoorGI
import Derived.Test.YthgmilllinbcjaaGreatDoorGH
import Derived.Test.YthgmilllinbcjaaGreatDoorZPlS
import Derived.Test.YthgmilllinbcjaaGreatDoorZPlP
namespace Go.Proofs.YthgmilllinbcjaaGreatDoor
open Go.RowKit
open Go.Lib (hid)

theorem VarsP.spoils {w w' : World} {P : Nat → Prop} {A : Option Addr} {l : List VI} {N M : Nat} (h : VarsP w P A l) (hs : Spoils N M w w') (hp : ∀ g, P g → M ≤ g) : VarsP w' (fun _ => True) A l :=
  h.frame fun g _ hg => ⟨trivial, hs.above g (hp g hg)⟩
theorem OwnV.spoils {w w' : World} {N M K c : Nat} {A : Option Addr} {ys : List VI} (h : OwnV w K A c ys) (hs : Spoils N M w w') (hK : M ≤ K) : OwnV w' K A c ys :=
  ⟨own4_kept h.1 fun g hg => hs.above g (by have := (h.1.lt g hg).1; omega), fun y hy => ⟨own_kept (h.2 y hy).1 fun g hg => hs.above g (by have := ((h.2 y hy).1.lt g hg).1; omega), (h.2 y hy).2⟩⟩

set_option maxRecDepth 100000 in
set_option maxHeartbeats 4000000 in
theorem own_walk (A : Option Addr) (c : Nat) (l : List VI) (y : VI) (w : World) (hsz : l.length * 64 ≤ 140737488351232) (hV : VarsP w (fun _ => True) A l) (hy : ItemP w (fun _ => True) y) :
    Calls Tryz.prog 7 #[.slice A l.length c, encVI y] w fun e w' => e = .returned (.bool true) ∧ Below w.heap.size w w' := by
  have cA := fun W => alive_any W
  have hal : Below w.heap.size w (w.alloc (.cells #[.string ⟨y.v.nm.toArray⟩, .string ⟨y.v.tx.toArray⟩, .bool y.v.ar, .slice y.A y.v.ls.length y.c] 34)) := (Below.refl _ _).alloc (Nat.le_refl _) _
  have hX : Var4' (w.alloc (.cells #[.string ⟨y.v.nm.toArray⟩, .string ⟨y.v.tx.toArray⟩, .bool y.v.ar, .slice y.A y.v.ls.length y.c] 34)) w.heap.size (.string ⟨y.v.nm.toArray⟩) (.string ⟨y.v.tx.toArray⟩) (.bool y.v.ar) (.slice y.A y.v.ls.length y.c) := heap_alloc_new _ _
  have hx0 := hX.lt
  go_enter Tryz.func7, Tryz.ntmps7
  go_wp2_with (go_at_call 8; refine (cA _).mono ?_; rintro e w1 ⟨rfl, hb1⟩)
  have hX1 := hX.below hb1
  have hB1 := hal.trans (hb1.mono hal.size)
  have HX1 := hid hX1
  have hs1 : w.heap.size < w1.heap.size := hX1.lt
  clear hX hal hb1 hx0 hX1
  -- in := CopyVars(vars)
  refine (copyVarsP A c l w1 (fun _ => True) (by omega) (hV.below hB1)).mono ?_
  rintro e w2 ⟨A2, c2, xs, rfl, hO2, hv2, hb2⟩
  have hU2 := hO2.under
  have hX2 := HX1.out.below hb2
  have x0 := hX2.a0; have x1 := hX2.a1; have x2 := hX2.a2; have x3 := hX2.a3
  have hs2 := hb2.size
  have hB2 := hB1.trans (hb2.mono hB1.size)
  have HO2 := hid (And.intro hO2 (And.intro hv2 (And.intro hb2 (And.intro hU2 (And.intro hB1 (And.intro hX2 hB2))))))
  clear hO2 hv2 hb2 hU2 hB1 hB2 hX2
  go_wp2_with fail
  -- own := CopyVars([v])
  have hal2 : Below w2.heap.size w2 (w2.alloc (.cells #[.string ⟨y.v.nm.toArray⟩, .string ⟨y.v.tx.toArray⟩, .bool y.v.ar, .slice y.A y.v.ls.length y.c] 34)) := (Below.refl _ _).alloc (Nat.le_refl _) _
  have hF : VarsP (w2.alloc (.cells #[.string ⟨y.v.nm.toArray⟩, .string ⟨y.v.tx.toArray⟩, .bool y.v.ar, .slice y.A y.v.ls.length y.c] 34)) (fun _ => True) (some ⟨w2.heap.size, 0, none⟩) [y] := by
    refine ⟨fun k hk => ?_, fun x hx => ?_⟩
    · obtain rfl : k = 0 := by simpa using hk
      exact ⟨_, _, rfl, trivial, by simp, by simp, by simp, by simp⟩
    · obtain rfl : x = y := by simpa using hx
      exact hy.below (HO2.out.2.2.2.2.2.2.trans (hal2.mono HO2.out.2.2.2.2.2.2.size))
  have cC := copyVarsP (some ⟨w2.heap.size, 0, none⟩) 1 [y] _ (fun _ => True) (by simp) hF
  have HAL2 := hid hal2
  have hsa : (w2.alloc (.cells #[.string ⟨y.v.nm.toArray⟩, .string ⟨y.v.tx.toArray⟩, .bool y.v.ar, .slice y.A y.v.ls.length y.c] 34)).heap.size = w2.heap.size + 1 := by simp
  rw [hsa] at cC
  clear hal2 hF hsa
  refine cC.mono ?_
  rintro e w3 ⟨A3, c3, us, rfl, hO3, hv3, hb3⟩
  obtain ⟨u, rfl⟩ : ∃ u, us = [u] := by
    cases us with
    | nil => simp at hv3
    | cons u r => cases r with
      | nil => exact ⟨u, rfl⟩
      | cons z r => simp at hv3
  have hu : u.v = y.v := by simpa using hv3
  have hU3 := hO3.under
  obtain ⟨g3, o3, rfl, hg3, d0, d1, d2, d3⟩ := hO3.vars.1 0 (by simp)
  simp only [List.getElem_cons_zero, Nat.zero_mul, Nat.add_zero] at d0 d1 d2 d3
  have hs3 : w2.heap.size < w3.heap.size := by have := hb3.size; simp at this; omega
  have hb23 : Below w2.heap.size w2 w3 := HAL2.out.trans (hb3.mono (by simp))
  have hX3 := HO2.out.2.2.2.2.2.1.below hb23
  have HO3 := hid (And.intro hO3 (And.intro hu (And.intro hb23 (And.intro hU3 hX3))))
  clear cC hO3 hv3 hu hb3 hU3 hb23 hX3 x0 x1 x2 x3
  go_wp2_with fail
  -- l := Put(in, own[0])
  have hxl : xs.length ≤ l.length := by have := congrArg List.length HO2.out.2.1; simp at this; omega
  have cP := put_any A2 c2 xs u w3 ((HO2.out.1.vars.any).below HO3.out.2.2.1) ((HO3.out.1.vars.2 u (by simp)).frame fun _ _ _ => ⟨trivial, rfl⟩) (by omega)
  refine cP.mono ?_
  rintro e w4 ⟨A4, c4, zs, rfl, hV4, hz4, hb4⟩
  have hO4 := HO2.out.1.below (HO3.out.2.2.1.trans (hb4.mono (by omega)))
  have hs4 := hb4.size
  have cS := spoilVarsP A2 c2 xs w1.heap.size w2.heap.size w4 (by omega) hO4 HO2.out.2.2.2.1 (by omega)
  have HO4 := hid (And.intro hV4 (And.intro hz4 hb4))
  clear cP hV4 hz4 hb4 hO4 d0 d1 d2 d3
  go_wp2_with fail
  refine cS.mono ?_
  rintro e w5 ⟨rfl, hS5⟩
  have hO5 := (HO3.out.1.below HO4.out.2.2).spoils hS5 (Nat.le_succ _)
  have hs5 := hS5.below.size
  have cS5 := spoilVarsP (some ⟨g3, o3, none⟩) c3 [u] (w2.heap.size + 1) w3.heap.size w5 (by simp) hO5 HO3.out.2.2.2.1 (by omega)
  have HS5 := hid hS5
  clear cS hO5 hS5
  go_wp2_with fail
  refine cS5.mono ?_
  rintro e w6 ⟨rfl, hS6⟩
  have hX6 : Var4' w6 w.heap.size (.string ⟨y.v.nm.toArray⟩) (.string ⟨y.v.tx.toArray⟩) (.bool y.v.ar) (.slice y.A y.v.ls.length y.c) :=
    (hS6.below.block _ (by omega)).trans ((HS5.out.below.block _ hs1).trans ((HO4.out.2.2.block _ (by omega)).trans HO3.out.2.2.2.2))
  have x0 := hX6.a0; have x1 := hX6.a1; have x2 := hX6.a2; have x3 := hX6.a3
  have hB6 : Below w.heap.size w w6 := HO2.out.2.2.2.2.2.2.trans ((HO3.out.2.2.1.mono (by omega)).trans ((HO4.out.2.2.mono (by omega)).trans ((HS5.out.below.mono (by omega)).trans (hS6.below.mono (by omega)))))
  have hV6 : VarsP w6 (fun _ => True) A4 zs := (HO4.out.1.frame fun g _ hg => ⟨(show w3.heap.size ≤ g from hg), HS5.out.above g (by have : w3.heap.size ≤ g := hg; omega)⟩).spoils hS6 fun _ h => h
  have cR := refPutP A c l y w6 (by omega) (hV.below hB6) (hy.below hB6)
  have HE := hid (show zs.map (·.v) = mixL V.nm (l.map (·.v)) [y.v] by rw [HO4.out.2.1, HO2.out.2.1, HO3.out.2.1])
  have HB6 := hid (And.intro hB6 hV6)
  have hzl : zs.length ≤ l.length + 1 := by
    have := congrArg List.length HO4.out.2.1
    have h2 := mixL_len V.nm (xs.map (·.v)) [u.v]
    simp at this h2
    omega
  clear cS5 hS6 hX6 hB6 hV6
  go_wp2_with fail
  refine cR.mono ?_
  rintro e w7 ⟨A7, c7, rs, rfl, hV7, hr7, hb7⟩
  have cM := sameVarsP A4 A7 c4 c7 zs rs w7 (fun _ => True) (fun _ => True) (by omega) (HB6.out.2.below hb7) hV7 (HE.out.trans hr7.symm)
  have HB7 := hid (HB6.out.1.trans (hb7.mono HB6.out.1.size))
  clear cR hV7 hr7 hb7 x0 x1 x2 x3
  go_wp2_with fail
  refine cM.mono ?_
  rintro e w8 ⟨rfl, n, rfl⟩
  go_wp2_with fail
  go_ret
  exact ⟨rfl, below_drewN HB7.out _⟩
end Go.Proofs.YthgmilllinbcjaaGreatDoor
