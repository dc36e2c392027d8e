/- TreeOwn: true, in memory of its own. Conditions: sizes. -/
import Derived.Test.YtngllipfnbmpeaaPuts07
import Derived.Test.YtngllipfnbmpeaaTreS
namespace Go.Proofs.Ytngllipfnbmpeaa
open Go.RowKit
open Go.Lib (hid)

set_option maxRecDepth 100000 in
set_option maxHeartbeats 8000000 in
theorem own_walk (A : Option Addr) (c : Nat) (t : List ND) (p x : List UInt8) (w : World) (hT : NodesP w (fun _ => True) A t) (hl : t.length ≤ 1048576 ∧ t.length ≤ c) (hz : ∀ n ∈ t, n.p.length ≤ 1048576 ∧ n.x.length ≤ 1048576) (hp : p.length ≤ 1048576) (hx : x.length ≤ 1048576) :
    Calls Try.prog 6 #[.slice A t.length c, encS p, encS x] w fun e w' => e = .returned (.bool true) ∧ Below w.heap.size w w' := by
  have hzt : SizeT t := fun n hn => by have := hz n hn; omega
  have cA := alive_any w
  have hT0 : NodesP w (fun g => g < w.heap.size) A t := hT.frame fun g hg _ => ⟨hg, rfl⟩
  have cC := fun W (h : NodesP W (fun g => g < w.heap.size) A t) => copyNodesP A c t W _ (by omega) h
  have cP := fun a c' W (h : NodesP W (fun _ => True) a t) (hc : t.length ≤ c') => tPut_any a c' t p x W h ⟨by omega, hc⟩ hzt (by omega) (by omega)
  have cR := fun a c' W (h : NodesP W (fun _ => True) a t) (hc : t.length ≤ c') => tRemove_any a c' t p true W h ⟨by omega, hc⟩ hzt (by omega)
  have cP2 := fun a c' W (h : NodesP W (fun _ => True) a t) => rPut_any a c' t p x W h (by omega) hzt (by omega) (by omega)
  have cR2 := fun a c' W (h : NodesP W (fun _ => True) a t) => rRemove_any a c' t p true W h (by omega) hzt (by omega)
  have lX := putQ_len t p x
  have lZ := remQ_len t p true
  generalize putQ t p x = X at *
  generalize remQ t p true = Z at *
  obtain ⟨X1, X2⟩ := X
  obtain ⟨Z1, Z2⟩ := Z
  simp only at lX lZ
  have cSX := fun a a' c1 c2 W (h1 : NodesP W (fun _ => True) a X1) (h2 : NodesP W (fun _ => True) a' X1) => sameNodesP a a' c1 c2 X1 W _ _ (by omega) h1 h2
  have cSZ := fun a a' c1 c2 W (h1 : NodesP W (fun _ => True) a Z1) (h2 : NodesP W (fun _ => True) a' Z1) => sameNodesP a a' c1 c2 Z1 W _ _ (by omega) h1 h2
  have cI := fun a c' N W (h : RowN W N a t.length c') => spoilNodesP a t.length c' N W (by omega) h
  clear hT hz hzt
  go_enter Try.func6, Try.ntmps6
  go_wp2_with fail
  refine cA.mono ?_
  rintro e w1 ⟨rfl, hb1⟩
  have HB1 := hid hb1
  have HT1 := hid (hT0.below hb1)
  have cC1 := cC w1 HT1.out
  clear hb1 cA cC hT0
  go_wp2_with fail
  refine cC1.mono ?_
  rintro e w2 ⟨ai, ci, rfl, hOi, hb2⟩
  have HB2 := hid (HB1.out.trans (hb2.mono HB1.out.size))
  have HT2 := hid (HT1.out.below hb2)
  have HI2 := hid hOi
  have LI := hid (own_cap hOi)
  have cP3 := cP ai ci w2 (OwnN.nodes hOi |>.any) LI.out
  clear hb2 cC1 cP hOi
  go_wp2_with fail
  refine cP3.mono ?_
  rintro e w3 ⟨a3, c3, rfl, hO, hb3⟩
  have HB3 := hid (HB2.out.trans (hb3.mono HB2.out.size))
  have HT3 := hid (HT2.out.below hb3)
  have HI3 := hid (HI2.out.kept hb3)
  have HS3 := hid hb3.size
  have HX3 := hid (OwnN.nodes hO)
  have cR4 := cR ai ci w3 (OwnN.nodes HI3.out |>.any) LI.out
  clear hb3 cP3 cR hO
  go_wp2_with fail
  refine cR4.mono ?_
  rintro e w4 ⟨a4, c4, rfl, hO, hb4⟩
  have HB4 := hid (HB3.out.trans (hb4.mono HB3.out.size))
  have HT4 := hid (HT3.out.below hb4)
  have HI4 := hid (HI3.out.kept hb4)
  have HX4 := hid (HX3.out.below hb4)
  have HZ4 := hid ((OwnN.nodes hO).frame (w' := w4) (Q := fun g => w2.heap.size ≤ g) fun g _ h => ⟨Nat.le_trans HS3.out h, rfl⟩)
  have cI5 := cI ai ci w1.heap.size w4 ⟨_, HI4.out⟩
  clear hb4 cR4 cI hO
  go_wp2_with fail
  refine cI5.mono ?_
  rintro e w5 ⟨rfl, hg5, hs5⟩
  have HB5 : Hid (Below w.heap.size w w5) := hid (HB4.out.grown hg5 (by have := HB4.out.size; omega) (fun k e => Nat.le_trans HB1.out.size (HI4.out.lt k e).1))
  have HT5 := hid (HT4.out.frame (w' := w5) (Q := fun _ => True) fun g hg h => ⟨trivial, hg5.block g hg (fun e => by have := (HI4.out.lt g e.symm).1; have := HB1.out.size; omega)⟩)
  have HX5 := hid (HX4.out.frame (w' := w5) (Q := fun _ => True) fun g hg h => ⟨trivial, hg5.block g hg (fun e => by have := (HI2.out.lt g e.symm).2; omega)⟩)
  have HZ5 := hid (HZ4.out.frame (w' := w5) (Q := fun _ => True) fun g hg h => ⟨trivial, hg5.block g hg (fun e => by have := (HI2.out.lt g e.symm).2; omega)⟩)
  have cP6 := cP2 A c w5 HT5.out
  clear cI5 cP2 hg5 hs5 HI2 HI3 HI4 HT1 HT2 HT3 HT4 HX3 HX4 HZ4
  go_wp2_with fail
  refine cP6.mono ?_
  rintro e w6 ⟨a6, c6, rfl, hO, hb6⟩
  have HB6 := hid (HB5.out.trans (hb6.mono HB5.out.size))
  have HT6 := hid (HT5.out.below hb6)
  have HX6 := hid (HX5.out.below hb6)
  have HZ6 := hid (HZ5.out.below hb6)
  have HV6 := hid (OwnN.nodes hO |>.any)
  have cR7 := cR2 A c w6 HT6.out
  clear hb6 cP6 cR2 hO HT5 HX5 HZ5
  go_wp2_with fail
  refine cR7.mono ?_
  rintro e w7 ⟨a7, c7, rfl, hO, hb7⟩
  have HB7 := hid (HB6.out.trans (hb7.mono HB6.out.size))
  have HX7 := hid (HX6.out.below hb7)
  have HZ7 := hid (HZ6.out.below hb7)
  have HV7 := hid (HV6.out.below hb7)
  have HU7 := hid (OwnN.nodes hO |>.any)
  have cS8 := cSX a3 a6 c3 c6 w7 HX7.out HV7.out
  clear hb7 cR7 hO HX6 HZ6 HV6 HT6 cSX
  go_wp2_with fail
  refine cS8.mono ?_
  rintro e w8 ⟨rfl, n8, rfl⟩
  have cS9 := cSZ a4 a7 c4 c7 (w7.drewN n8) (HZ7.out.frame fun _ _ _ => ⟨trivial, rfl⟩) (HU7.out.frame fun _ _ _ => ⟨trivial, rfl⟩)
  clear cS8 cSZ
  go_wp2_with (go_at_call 9; refine (num_any _ _).mono ?_; rintro e w6 ⟨rfl, rfl⟩)
  refine cS9.mono ?_
  rintro e w9 ⟨rfl, n9, rfl⟩
  go_wp2_with (go_at_call 9; refine (num_any _ _).mono ?_; rintro e w6 ⟨rfl, rfl⟩)
  go_ret
  exact ⟨rfl, below_drewN HB7.out _⟩
end Go.Proofs.Ytngllipfnbmpeaa
