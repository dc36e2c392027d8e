/- TestFiles, TestTells: true. Conditions: sizes. -/
import Derived.Test.YtnedjpopadkdeaaDoorGC
import Derived.Test.YtnedjpopadkdeaaDoorGD
import Derived.Test.YtnedjpopadkdeaaDoorGE
namespace Go.Proofs.YtnedjpopadkdeaaDoor
open Go.RowKit
open Go.Lib (hid)

theorem files_math (t : List ND) (s : List UInt8) :
    (singleL t [45, 101] s = 1 ∧ singleL t [45, 102] s = 1 ∧ singleL t [45, 100] s = 1 ∧ singleL t [45, 115] s = 1)
    ∨ (singleL t [45, 101] s = 0 ∧ singleL t [45, 102] s = 0 ∧ singleL t [45, 100] s = 1 ∧ singleL t [45, 115] s = 0)
    ∨ (singleL t [45, 101] s = 0 ∧ singleL t [45, 102] s = 0 ∧ singleL t [45, 100] s = 1 ∧ singleL t [45, 115] s = 1)
    ∨ (singleL t [45, 101] s = 0 ∧ singleL t [45, 102] s = 1 ∧ singleL t [45, 100] s = 0 ∧ singleL t [45, 115] s = 1) := by
  have h3 : singleL t [45, 101] s = statusL (kindQ t s != 0) := by unfold singleL; rw [if_neg (by decide), if_neg (by decide), if_pos (by decide)]
  have h4 : singleL t [45, 102] s = statusL (kindQ t s == 1) := by unfold singleL; rw [if_neg (by decide), if_neg (by decide), if_neg (by decide), if_pos (by decide)]
  have h5 : singleL t [45, 100] s = statusL (kindQ t s == 2) := by unfold singleL; rw [if_neg (by decide), if_neg (by decide), if_neg (by decide), if_neg (by decide), if_pos (by decide)]
  have h6 : singleL t [45, 115] s = statusL (!(getQ t s).1.isEmpty) := by unfold singleL; rw [if_neg (by decide), if_neg (by decide), if_neg (by decide), if_neg (by decide), if_neg (by decide), if_pos (by decide)]
  rw [h3, h4, h5, h6]
  rcases kindQ_lo t s with h | h | h
  · rw [h, get_file (by rw [h]; decide)]
    exact .inl ⟨rfl, rfl, rfl, rfl⟩
  · rw [h]
    cases (getQ t s).1.isEmpty
    · exact .inr (.inl ⟨rfl, rfl, rfl, rfl⟩)
    · exact .inr (.inr (.inl ⟨rfl, rfl, rfl, rfl⟩))
  · rw [h, get_file (by rw [h]; decide)]
    exact .inr (.inr (.inr ⟨rfl, rfl, rfl, rfl⟩))

set_option linter.unusedSimpArgs false in
set_option maxRecDepth 100000 in
set_option maxHeartbeats 4000000 in
theorem files_walk (s : List UInt8) (A : Option Addr) (c : Nat) (t : List ND) (w : World) (hs : s.length ≤ 1048576) (hT : NodesP w (fun _ => True) A t) (hl : t.length ≤ 1048576 ∧ t.length ≤ c) (hz : ∀ n ∈ t, n.p.length ≤ 1048576 ∧ n.x.length ≤ 1048576) :
    Calls Tryd.prog 7 #[encS s, .slice A t.length c] w fun e w' => e = .returned (.bool true) ∧ Below w.heap.size w w' := by
  have hzt : SizeT t := fun n hn => by have := hz n hn; omega
  have cA := alive_any w
  have HT := hid hT
  have cS := fun (p : List UInt8) W (hb : Below w.heap.size w W) => single_t A c t p s W (HT.out.below hb) ⟨by omega, hl.2⟩ hzt (by omega)
  have c1 := cS [45, 101]
  have c2 := cS [45, 102]
  have c3 := cS [45, 100]
  have c4 := cS [45, 115]
  clear hT hz hzt cS
  rcases files_math t s with ⟨h1, h2, h3, h4⟩ | ⟨h1, h2, h3, h4⟩ | ⟨h1, h2, h3, h4⟩ | ⟨h1, h2, h3, h4⟩
  all_goals
    rw [h1] at c1
    rw [h2] at c2
    rw [h3] at c3
    rw [h4] at c4
    clear h1 h2 h3 h4
    go_enter Tryd.func7, Tryd.ntmps7
    go_wp2_with fail
    refine cA.mono ?_
    rintro e w1 ⟨rfl, hb1⟩
    have HB1 := hid hb1
    have c1 := c1 w1 HB1.out
    clear hb1 cA
    go_wp2_with fail
    refine c1.mono ?_
    rintro e w2 ⟨rfl, hb2⟩
    have HB2 := hid (HB1.out.trans (hb2.mono HB1.out.size))
    have c2 := c2 w2 HB2.out
    clear hb2 c1 HB1
    go_wp2_with fail
    refine c2.mono ?_
    rintro e w3 ⟨rfl, hb3⟩
    have HB3 := hid (HB2.out.trans (hb3.mono HB2.out.size))
    have c3 := c3 w3 HB3.out
    clear hb3 c2 HB2
    go_wp2_with fail
    refine c3.mono ?_
    rintro e w4 ⟨rfl, hb4⟩
    have HB4 := hid (HB3.out.trans (hb4.mono HB3.out.size))
    have c4 := c4 w4 HB4.out
    clear hb4 c3 HB3
    go_wp2_with fail
    refine c4.mono ?_
    rintro e w5 ⟨rfl, hb5⟩
    have HB5 := hid (HB4.out.trans (hb5.mono HB4.out.size))
    clear hb5 c4 HB4
    go_wp2_with fail
    go_ret
    exact ⟨rfl, HB5.out⟩

set_option linter.unusedSimpArgs false in
set_option maxRecDepth 100000 in
set_option maxHeartbeats 4000000 in
theorem tells_walk (AL : Option Addr) (cL : Nat) (l : List (List UInt8)) (A : Option Addr) (c : Nat) (t : List ND) (p a b : List UInt8) (w : World) (hL : TextsP w (fun _ => True) AL l) (hcl : l.length ≤ cL) (hzl : sizeTs l ≤ 1048576)
    (hT : NodesP w (fun _ => True) A t) (hl : t.length ≤ 1048576 ∧ t.length ≤ c) (hz : ∀ n ∈ t, n.p.length ≤ 1048576 ∧ n.x.length ≤ 1048576) (_hp : p.length ≤ 1048576) (ha : a.length ≤ 1048576) (hb : b.length ≤ 1048576) :
    Calls Tryd.prog 3 #[.slice AL l.length cL, .slice A t.length c, encS p, encS a, encS b] w fun e w' => e = .returned (.bool true) ∧ Below w.heap.size w w' := by
  have hzt : SizeT t := fun n hn => by have := hz n hn; omega
  have hll := sizeTs_len l
  have hls : ∀ x ∈ l, x.length ≤ 137438953472 := fun x hx => by have := sizeTs_mem l x hx; omega
  have hl2 : t.length ≤ 1099511627776 ∧ t.length ≤ c := ⟨by omega, hl.2⟩
  have HT := hid hT
  have HL := hid hL
  have cE := eval_t AL A cL c l t w hL hcl hT hl2 hzt hls (by omega)
  have cE2 := fun W (h : Below w.heap.size w W) => eval_r AL A cL c l t W (HL.out.below h) hcl (HT.out.below h) hl2 hzt hls (by omega)
  have cU := fun W => unary_b p W
  have cU2 := fun W => unary_r p W
  have cB := fun W => binary_b p W
  have cB2 := fun W => binary_r p W
  have cS := fun W (h : Below w.heap.size w W) => single_t A c t p a W (HT.out.below h) hl2 hzt (by omega)
  have cS2 := fun W (h : Below w.heap.size w W) => single_r A c t p a W (HT.out.below h) hl2 hzt (by omega)
  have cD := fun W => both_t a p b W (by omega) (by omega)
  have cD2 := fun W => both_r a p b W (by omega) (by omega)
  have cA := fun W => alive_any W
  generalize evalL t l = v1 at *
  generalize unaryL p = v2 at *
  generalize binaryL p = v3 at *
  generalize singleL t p a = v4 at *
  generalize bothL a p b = v5 at *
  clear hT hL hz hzt hls hl2 hzl
  go_enter Tryd.func3, Tryd.ntmps3
  go_wp2_with fail
  refine cE.mono ?_
  rintro e w1 ⟨rfl, hb1⟩
  have HB1 := hid hb1
  have cE2 := cE2 w1 HB1.out
  clear hb1 cE
  go_wp2_with fail
  refine cE2.mono ?_
  rintro e w2 ⟨rfl, hb2⟩
  have HB2 := hid (HB1.out.trans (hb2.mono HB1.out.size))
  clear hb2 cE2 HB1
  go_wp2_with fail
  refine (cU _).mono ?_
  rintro e w3 ⟨rfl, hb3⟩
  have HB3 := hid (HB2.out.trans (hb3.mono HB2.out.size))
  clear hb3 cU HB2
  go_wp2_with fail
  refine (cU2 _).mono ?_
  rintro e w4 ⟨rfl, hb4⟩
  have HB4 := hid (HB3.out.trans (hb4.mono HB3.out.size))
  clear hb4 cU2 HB3
  go_wp2_with fail
  refine (cB _).mono ?_
  rintro e w5 ⟨rfl, hb5⟩
  have HB5 := hid (HB4.out.trans (hb5.mono HB4.out.size))
  clear hb5 cB HB4
  go_wp2_with fail
  refine (cB2 _).mono ?_
  rintro e w6 ⟨rfl, hb6⟩
  have HB6 := hid (HB5.out.trans (hb6.mono HB5.out.size))
  have cS := cS w6 HB6.out
  clear hb6 cB2 HB5
  go_wp2_with fail
  refine cS.mono ?_
  rintro e w7 ⟨rfl, hb7⟩
  have HB7 := hid (HB6.out.trans (hb7.mono HB6.out.size))
  have cS2 := cS2 w7 HB7.out
  clear hb7 cS HB6
  go_wp2_with fail
  refine cS2.mono ?_
  rintro e w8 ⟨rfl, hb8⟩
  have HB8 := hid (HB7.out.trans (hb8.mono HB7.out.size))
  clear hb8 cS2 HB7
  go_wp2_with fail
  refine (cD _).mono ?_
  rintro e w9 ⟨rfl, hb9⟩
  have HB9 := hid (HB8.out.trans (hb9.mono HB8.out.size))
  clear hb9 cD HB8
  go_wp2_with fail
  refine (cD2 _).mono ?_
  rintro e w10 ⟨rfl, hb10⟩
  have HB10 := hid (HB9.out.trans (hb10.mono HB9.out.size))
  clear hb10 cD2 HB9
  go_wp2_with fail
  refine (cA _).mono ?_
  rintro e w11 ⟨rfl, hb11⟩
  have HB11 := hid (HB10.out.trans (hb11.mono HB10.out.size))
  clear hb11 cA HB10
  go_wp2_with fail
  go_ret
  exact ⟨rfl, HB11.out⟩
end Go.Proofs.YtnedjpopadkdeaaDoor
