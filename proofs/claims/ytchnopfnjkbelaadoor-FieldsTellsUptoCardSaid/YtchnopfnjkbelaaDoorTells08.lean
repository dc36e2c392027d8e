/- FieldsTells: true, in memory of its own. Conditions: sizes. -/
import Derived.Test.YtchnopfnjkbelaaDoorFlL
import Derived.Test.YtchnopfnjkbelaaDoorFldF
import Derived.Test.YtchnopfnjkbelaaDoorFlV
import Derived.Test.YtchnopfnjkbelaaDoorFlZ
import Derived.Test.YtchnopfnjkbelaaDoorMmS
namespace Go.Proofs.YtchnopfnjkbelaaDoor
open Go.RowKit
open Go.Lib (hid)

set_option linter.unusedSimpArgs false in
set_option maxRecDepth 100000 in
set_option maxHeartbeats 8000000 in
theorem tells_walk (A : Option Addr) (c : Nat) (l : List Pc) (ifs s : List UInt8) (n : Int) (w : World) (hP : PcsP w (fun _ => True) (fun _ => True) A l) (hz : sizePs l ≤ 1048576) (hi : ifs.length ≤ 1048576) (hs : s.length ≤ 1048576) (hn : -9223372036854775808 ≤ n ∧ n < 9223372036854775808) :
    Calls Tryd.prog 3 #[.slice A l.length c, .string ⟨ifs.toArray⟩, .string ⟨s.toArray⟩, .int .i64 n] w fun e w' => e = .returned (.bool true) ∧ Below w.heap.size w w' := by
  have hll := sizePs_len l
  obtain ⟨hf1, hf2⟩ := fields_sizes l ifs
  have cO := fun W (hb : Below w.heap.size w W) => of_any A c l W (hP.below hb) (by omega)
  have cRF := fun W (hb : Below w.heap.size w W) => rFields_any A c l ifs W (hP.below hb) (by omega) (by omega)
  have cRJ := fun W (hb : Below w.heap.size w W) => rJoin_any A c l W (hP.below hb) (by omega)
  have cF := fun a c' W (hp : PcsP W (fun _ => True) (fun _ => True) a l) => fields_any a c' l ifs W hp (by omega) (by omega)
  have cJ := fun a c' W (hp : PcsP W (fun _ => True) (fun _ => True) a l) => join_any a c' l W hp (by omega)
  have cW := fun W => words_any s n W (by omega) (.inl (by omega)) hn
  have cRW := fun W => rWords_any s n W (by omega) hn
  obtain ⟨fs, hfs⟩ : ∃ fs, fieldsL l ifs = fs := ⟨_, rfl⟩
  rw [hfs] at cRF cF hf1 hf2
  have hfm : ∀ f ∈ fs, f.length ≤ 549755813888 := fun f hf => by have := hf2 f hf; omega
  have hfm2 : ∀ f ∈ fs, f.length ≤ 1099511627776 := fun f hf => by have := hf2 f hf; omega
  have cSF := fun a1 a2 c1 c2 W P1 Q1 P2 Q2 h1 h2 => sameFieldsO a1 a2 c1 c2 fs W P1 Q1 P2 Q2 (by omega) hfm2 h1 h2
  have cT := fun a c W h => texts_any a c fs W h (by omega) hfm
  have cRT := fun a c W h => rTexts_any a c fs W h (by omega) hfm
  have htl : (textsF fs).length = fs.length := by simp [textsF]
  have cST := fun a1 a2 c1 c2 W P Q h1 h2 => sameTextsP a1 a2 c1 c2 (textsF fs) W P Q (by omega) h1 h2
  have hwl : (wordsL s n).length ≤ 140737488355328 := by
    have h1 : ∀ (m : Nat) (r : List UInt8), TwP r → (wordsF m r).length ≤ r.length := by
      intro m
      induction m with
      | zero => intro r _; simp [wordsF]
      | succ k ih =>
        intro r hr
        by_cases h0 : r = []
        · subst h0; simp [wordsF]
        · by_cases hk : k = 0
          · subst hk
            have := List.length_pos_iff.2 h0
            rw [wordsF, if_neg h0, if_pos rfl, List.length_singleton]
            omega
          · rw [wordsF_next k r h0 hk, List.length_cons]
            have h1 := ih _ (trim_twP (r.dropWhile nbW))
            have h2 := trim_len (r.dropWhile nbW)
            have h3 := List.length_pos_iff.2 (word_some hr h0)
            have h4 : (r.takeWhile nbW).length + (r.dropWhile nbW).length = r.length := by
              rw [← List.length_append, List.takeWhile_append_dropWhile]
            omega
    have h2 := h1 n.toNat (trimW s) (trim_twP s)
    have h3 := trim_len s
    unfold wordsL
    omega
  have cSW := fun a1 a2 c1 c2 W P Q h1 h2 => sameTextsP a1 a2 c1 c2 (wordsL s n) W P Q hwl h1 h2
  generalize wordsL s n = ws at *
  generalize textsF fs = ts at *
  generalize joinP l = jl at *
  clear hfs hf2 hfm hfm2 hwl htl hf1 hP hz hi hs hn hll
  have cO0 := cO w (Below.refl _ _)
  go_enter Tryd.func3, Tryd.ntmps3
  go_wp2_with fail
  refine cO0.mono ?_
  rintro e w1 ⟨a1, c1, M1, rfl, hO1, -, hb1⟩
  have cF1 := cF a1 c1 w1 (OwnPs.pcs hO1).any
  have HB1 := hid hb1
  clear hO1 hb1 cO0 cF
  go_wp2_with fail
  refine cF1.mono ?_
  rintro e w2 ⟨a2, c2, M2, rfl, hO2, hb2⟩
  have HB2 := hid (HB1.out.trans (hb2.mono HB1.out.size))
  have cRF2 := cRF w2 HB2.out
  have HO2 := hid hO2
  clear hO2 hb2 HB1 cF1 cRF
  go_wp2_with fail
  refine cRF2.mono ?_
  rintro e w3 ⟨a3, c3, M3, rfl, hO3, hb3⟩
  have HB3 := hid (HB2.out.trans (hb3.mono HB2.out.size))
  have cS3 := cSF a2 a3 c2 c3 w3 _ _ _ _ (HO2.out.below hb3).flds hO3.flds
  have HF3 := hid hO3.flds.any
  clear hO3 hb3 HB2 HO2 cRF2 cSF
  go_wp2_with fail
  refine cS3.mono ?_
  rintro e w4 ⟨rfl, n4, rfl⟩
  have HB4 := hid (below_drewN HB3.out n4)
  have cO4 := cO _ HB4.out
  have HF4 : Hid (FldsP (w3.drewN n4) (fun _ => True) (fun _ => True) a3 fs) := hid HF3.out
  clear HF3 HB3 cS3 cO
  generalize w3.drewN n4 = w4 at *
  go_wp2_with fail
  refine cO4.mono ?_
  rintro e w5 ⟨a5, c5, M5, rfl, hO5, -, hb5⟩
  have cJ5 := cJ a5 c5 w5 (OwnPs.pcs hO5).any
  have HB5 := hid (HB4.out.trans (hb5.mono HB4.out.size))
  have HF5 := hid (HF4.out.below hb5)
  clear hO5 hb5 HB4 HF4 cO4 cJ
  go_wp2_with fail
  refine cJ5.mono ?_
  rintro e w6 ⟨rfl, hb6⟩
  have HB6 := hid (HB5.out.trans (hb6.mono HB5.out.size))
  have HF6 := hid (HF5.out.below hb6)
  have cRJ6 := cRJ w6 HB6.out
  clear hb6 HB5 HF5 cJ5 cRJ
  go_wp2_with fail
  refine cRJ6.mono ?_
  rintro e w7 ⟨rfl, hb7⟩
  have HB7 := hid (HB6.out.trans (hb7.mono HB6.out.size))
  have HF7 := hid (HF6.out.below hb7)
  have cW7 := cW w7
  clear hb7 HB6 HF6 cRJ6 cW
  go_wp2_with fail
  refine cW7.mono ?_
  rintro e w8 ⟨a8, c8, rfl, hR8, hb8⟩
  have HB8 := hid (HB7.out.trans (hb8.mono HB7.out.size))
  have HF8 := hid (HF7.out.below hb8)
  have cR8 := cRW w8
  have HR8 := hid hR8
  clear hR8 hb8 HB7 HF7 cW7 cRW
  go_wp2_with fail
  refine cR8.mono ?_
  rintro e w9 ⟨a9, c9, rfl, hR9, hb9⟩
  have HB9 := hid (HB8.out.trans (hb9.mono HB8.out.size))
  have HF9 := hid (HF8.out.below hb9)
  have cS9 := cSW a8 a9 c8 c9 w9 _ _ (TextsP.of_own (own_below HR8.out hb9)) (TextsP.of_own hR9)
  clear hR9 hb9 HB8 HF8 HR8 cR8 cSW
  go_wp2_with fail
  refine cS9.mono ?_
  rintro e w10 ⟨rfl, n10, rfl⟩
  have HB10 := hid (below_drewN HB9.out n10)
  have HF10 : Hid (FldsP (w9.drewN n10) (fun _ => True) (fun _ => True) a3 fs) := hid HF9.out
  clear HF9 HB9 cS9
  generalize w9.drewN n10 = w10 at *
  have cT10 := cT a3 c3 w10 HF10.out
  go_wp2_with fail
  refine cT10.mono ?_
  rintro e w11 ⟨a11, c11, rfl, hR11, hb11⟩
  have HB11 := hid (HB10.out.trans (hb11.mono HB10.out.size))
  have cR11 := cRT a3 c3 w11 (HF10.out.below hb11)
  have HR11 := hid hR11
  clear hR11 hb11 HB10 HF10 cT10 cT cRT
  go_wp2_with fail
  refine cR11.mono ?_
  rintro e w12 ⟨a12, c12, rfl, hR12, hb12⟩
  have HB12 := hid (HB11.out.trans (hb12.mono HB11.out.size))
  have cS12 := cST a11 a12 c11 c12 w12 _ _ (TextsP.of_own (own_below HR11.out hb12)) (TextsP.of_own hR12)
  clear hR12 hb12 HB11 HR11 cR11 cST
  go_wp2_with fail
  refine cS12.mono ?_
  rintro e w13 ⟨rfl, n13, rfl⟩
  have HB13 := hid (below_drewN HB12.out n13)
  clear HB12 cS12
  generalize w12.drewN n13 = w13 at *
  have cA := alive_any w13
  go_wp2_with fail
  refine cA.mono ?_
  rintro e w14 ⟨rfl, hb14⟩
  have HB14 := hid (HB13.out.trans (hb14.mono HB13.out.size))
  clear hb14 HB13 cA
  go_wp2_with fail
  go_ret
  exact ⟨rfl, HB14.out⟩
end Go.Proofs.YtchnopfnjkbelaaDoor
