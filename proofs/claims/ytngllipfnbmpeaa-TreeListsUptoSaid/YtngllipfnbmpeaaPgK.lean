/- tree.at, spot.room. Conditions: sizes. -/
import Derived.Test.YtngllipfnbmpeaaPgH
import Derived.Test.YtngllipfnbmpeaaPgJ
namespace Go.Proofs.Ytngllipfnbmpeaa
open Go.RowKit
open Go.Lib (hid)

set_option maxHeartbeats 2000000 in
theorem at_err (g : Nat) (lb : Array Value) (A : Option Addr) (c : Nat) (t : List ND) (p : List UInt8) (f : Int) (w : World) (hT : NodesP w (fun _ => True) A t) (hl : t.length ≤ 1099511627776) (hz : SizeT t) (hcap : t.length ≤ c) (hp : p.length ≤ 274877906944) (ha : askQ t p = ([], f)) (hf : f ≠ 0) :
    Calls Try.prog 25 #[.slice A t.length c, encS p, .func (.func g) #[] lb] w fun e w' => e = .returned (.int .i64 f) ∧ Below w.heap.size w w' := by
  have cC := tCheck_any A c t w hT hl hz hcap
  have cP := fun W => tPath_any p W (by omega)
  rcases checkL_cases t with ⟨h, h0⟩ | ⟨h, h0⟩
  · have hq : pathQ p = ([], f) := by unfold askQ at ha; rw [if_pos h] at ha; exact ha
    rw [h0] at cC
    rw [hq] at cP
    have q1 : (f == 0) = false := by simpa using hf
    have q2 : (f != 0) = true := by simpa using hf
    clear h h0 hT hz ha hf hq
    go_enter Try.func25, Try.ntmps25
    go_wp2_with fail
    refine cC.mono ?_
    rintro e w1 ⟨rfl, hb1⟩
    have HB := hid hb1
    clear hb1 cC
    go_wp2_with fail
    refine (cP _).mono ?_
    rintro e w2 ⟨rfl, hb2⟩
    have HB2 := hid (HB.out.trans (hb2.mono HB.out.size))
    clear hb2 cP
    go_wp2_with fail
    go_ret
    exact ⟨rfl, HB2.out⟩
  · have hq : f = 9 := by unfold askQ at ha; rw [if_neg h] at ha; exact (Prod.mk.inj ha).2.symm
    subst hq
    rw [h0] at cC
    clear h h0 hT hz ha cP
    go_enter Try.func25, Try.ntmps25
    go_wp2_with fail
    refine cC.mono ?_
    rintro e w1 ⟨rfl, hb1⟩
    have HB := hid hb1
    clear hb1 cC
    go_wp2_with fail
    go_ret
    exact ⟨rfl, HB.out⟩

def AtPost (R : Int → World → Prop) (e : Ending) (w' : World) : Prop := ∃ n, e = .returned (.int .i64 n) ∧ R n w'
set_option maxHeartbeats 2000000 in
theorem at_ok (g : Nat) (lb : Array Value) (eg : ∀ args w, (callFunc g args).run Try.prog w = .ok (.enter g args) w) (R : Int → World → Prop) (A : Option Addr) (c : Nat) (t : List ND) (p : List UInt8) (w : World) (hT : NodesP w (fun _ => True) A t) (hl : t.length ≤ 1099511627776) (hz : SizeT t) (hcap : t.length ≤ c) (hp : p.length ≤ 274877906944) (hok : OkT t) (hq : pathQ p = (pathL p, 0))
    (hdo : ∀ W, Below w.heap.size w W → Calls Try.prog g (#[.agg #[encS (pathL p), .int .i64 (whereN t (pathL p)), .int .i64 (kindL t (pathL p))]] ++ lb) W (AtPost R)) :
    Calls Try.prog 25 #[.slice A t.length c, encS p, .func (.func g) #[] lb] w (AtPost R) := by
  have cC := tCheck_any A c t w hT hl hz hcap
  have cP := fun W => tPath_any p W (by omega)
  rw [checkL_ok hok] at cC
  rw [hq] at cP
  have cW := fun W (hb : Below w.heap.size w W) => where_any A c t (pathL p) W (hT.below hb) hl hok.asc
  have cK := fun W (hb : Below w.heap.size w W) => kindOf_any A c t (pathL p) W (hT.below hb) hl hok.asc
  generalize whereN t (pathL p) = wh at *
  generalize kindL t (pathL p) = K at *
  generalize pathL p = P at *
  clear hT hz hok hq
  go_enter Try.func25, Try.ntmps25
  go_wp2_with fail
  refine cC.mono ?_
  rintro e w1 ⟨rfl, hb1⟩
  have HB := hid hb1
  clear hb1 cC
  go_wp2_with fail
  refine (cP _).mono ?_
  rintro e w2 ⟨rfl, hb2⟩
  have HB2 := hid (HB.out.trans (hb2.mono HB.out.size))
  have cW2 := cW w2 HB2.out
  clear hb2 cP cW
  go_wp2_with fail
  refine cW2.mono ?_
  rintro e w3 ⟨rfl, hb3⟩
  have HB3 := hid (HB2.out.trans (hb3.mono HB2.out.size))
  have cK3 := cK w3 HB3.out
  clear hb3 cW2 cK
  go_wp2_with fail
  refine cK3.mono ?_
  rintro e w4 ⟨rfl, hb4⟩
  have cD := hdo w4 (HB3.out.trans (hb4.mono HB3.out.size))
  clear hb4 cK3 hdo
  go_wp2_with (go_at_fn g; refine cD.mono ?_; rintro e w5 ⟨n, rfl, hR⟩)
  have HR := hid hR
  clear hR cD
  go_wp2_with fail
  go_ret
  exact ⟨n, rfl, HR.out⟩

/-- What room tells: an error of a place for something new, of so many octets more. -/
def roomR (t : List ND) (P : List UInt8) (K more : Int) : Int := if kindL t (homeL P) = 0 then 71 else if kindL t (homeL P) = 1 then 16 else if (K = 0 ∧ 256 ≤ t.length) ∨ 65536 < (sumX t : Int) + more then 17 else 0
set_option maxHeartbeats 4000000 in
theorem room_any (A : Option Addr) (c : Nat) (t : List ND) (P : List UInt8) (wh K more : Int) (w : World) (hT : NodesP w (fun _ => True) A t) (hok : OkT t) (hz : SizeT t) (hP : P ≠ []) (hs : P.length ≤ 1099511627776) (hm : -4611686018427387904 ≤ more ∧ more ≤ 4611686018427387904) :
    Calls Try.prog (48) #[.agg #[encS P, .int .i64 wh, .int .i64 K], .slice A t.length c, .int .i64 more] w fun e w' => e = .returned (.int .i64 (roomR t P K more)) ∧ Below w.heap.size w w' := by
  have h256 := hok.1
  have hsum := hok.sum
  have cH := fun W => home_any P hP hs W
  have cK := fun W (hb : Below w.heap.size w W) => kindOf_any A c t (homeL P) W (hT.below hb) (by omega) hok.asc
  have cS := fun W (hb : Below w.heap.size w W) => size_any A c t W (hT.below hb) h256 hz
  have hal : Below w.heap.size w (w.alloc (.cells #[encS P, .int .i64 wh, .int .i64 K] 51)) := (Below.refl _ _).alloc (Nat.le_refl _) _
  have hb3 : (w.alloc (.cells #[encS P, .int .i64 wh, .int .i64 K] 51)).heap[w.heap.size]? = some (.cells #[encS P, .int .i64 wh, .int .i64 K] 51 (0, 0)) := heap_alloc_new _ _
  generalize hS : sumX t = S at *
  have hR : Hid (roomR t P K more = if kindL t (homeL P) = 0 then 71 else if kindL t (homeL P) = 1 then 16 else if (K = 0 ∧ 256 ≤ t.length) ∨ 65536 < (S : Int) + more then 17 else 0) := hid (by unfold roomR; rw [hS])
  obtain ⟨W0, hW0⟩ : ∃ W0, w.alloc (.cells #[encS P, .int .i64 wh, .int .i64 K] 51) = W0 := ⟨_, rfl⟩
  rw [hW0] at hal hb3
  have x0 : W0.cell? ⟨w.heap.size, 0, none⟩ = some (encS P) := by simp [World.cell?, hb3]
  have hkc := kind_cases t (homeL P)
  generalize kindL t (homeL P) = KH at *
  have hkc : KH = 0 ∨ KH = 1 ∨ KH = 2 := by rcases hkc with ⟨h, _⟩ | ⟨h, _⟩ | ⟨h, _⟩ <;> simp [h]
  clear hT hz hok hP hS
  rcases hkc with rfl | rfl | rfl
  · go_enter Try.func48, Try.ntmps48
    go_wp2_with (go_at_call 34; refine (cH _).mono ?_; rintro e w3 ⟨rfl, rfl⟩)
    refine (cK _ hal).mono ?_
    rintro e w4 ⟨rfl, hb4⟩
    have HB := hid (hal.trans (hb4.mono hal.size))
    clear cK cS hb4 cH x0 hb3
    go_wp2
    go_ret
    exact ⟨by rw [hR.out]; rfl, HB.out⟩
  · go_enter Try.func48, Try.ntmps48
    go_wp2_with (go_at_call 34; refine (cH _).mono ?_; rintro e w3 ⟨rfl, rfl⟩)
    refine (cK _ hal).mono ?_
    rintro e w4 ⟨rfl, hb4⟩
    have HB := hid (hal.trans (hb4.mono hal.size))
    clear cK cS hb4 cH x0 hb3
    go_wp2
    go_ret
    exact ⟨by rw [hR.out]; rfl, HB.out⟩
  · have hfull : (K = 0 ∧ 256 ≤ t.length) ∨ ((K == 0) = true ∧ decide ((256 : Int) ≤ (t.length : Int)) = false ∧ ¬ 256 ≤ t.length) ∨ ((K == 0) = false ∧ K ≠ 0) := by
      by_cases hK : K = 0
      · by_cases hL : 256 ≤ t.length
        · exact .inl ⟨hK, hL⟩
        · exact .inr (.inl ⟨by simpa using hK, by simp; omega, hL⟩)
      · exact .inr (.inr ⟨by simpa using hK, hK⟩)
    rcases hfull with ⟨rfl, hL⟩ | hfull
    · have q2 : decide ((256 : Int) ≤ (t.length : Int)) = true := by simp; omega
      have hR2 : Hid (roomR t P 0 more = 17) := hid (by rw [hR.out, if_neg (by decide), if_neg (by decide), if_pos (.inl ⟨rfl, hL⟩)])
      clear hR hL
      go_enter Try.func48, Try.ntmps48
      go_wp2_with (go_at_call 34; refine (cH _).mono ?_; rintro e w3 ⟨rfl, rfl⟩)
      refine (cK _ hal).mono ?_
      rintro e w4 ⟨rfl, hb4⟩
      have HB := hid (hal.trans (hb4.mono hal.size))
      have hb5 := heap_below' hb3 hb4
      have x2 : w4.cell? ⟨w.heap.size, 2, none⟩ = some (.int .i64 0) := by simp [World.cell?, hb5]
      clear cK cS hb4 cH x0 hb3 hb5
      go_wp2
      go_ret
      exact ⟨by rw [hR2.out]; rfl, HB.out⟩
    · have hno : ¬ (K = 0 ∧ 256 ≤ t.length) := by
        rcases hfull with ⟨_, _, h⟩ | ⟨_, h⟩
        · exact fun hh => h hh.2
        · exact fun hh => h hh.1
      have hS2 : (65536 < (S : Int) + more ∧ decide ((65536 : Int) < (S : Int) + more) = true) ∨ (¬ 65536 < (S : Int) + more ∧ decide ((65536 : Int) < (S : Int) + more) = false) := by
        by_cases h : 65536 < (S : Int) + more
        · exact .inl ⟨h, by simpa using h⟩
        · exact .inr ⟨h, by simpa using h⟩
      have hR3 : Hid (roomR t P K more = if 65536 < (S : Int) + more then 17 else 0) := hid (by
        rw [hR.out, if_neg (by decide), if_neg (by decide)]
        by_cases h : 65536 < (S : Int) + more
        · rw [if_pos (.inr h), if_pos h]
        · rw [if_neg (by rintro (e | e); exact hno e; exact h e), if_neg h])
      clear hR hno
      rcases hS2 with ⟨h, q3⟩ | ⟨h, q3⟩
      all_goals
        first | rw [if_pos h] at hR3 | rw [if_neg h] at hR3
        clear h
        rcases hfull with ⟨q1, q2, -⟩ | ⟨q1, -⟩
        all_goals
          go_enter Try.func48, Try.ntmps48
          go_wp2_with (go_at_call 34; refine (cH _).mono ?_; rintro e w3 ⟨rfl, rfl⟩)
          refine (cK _ hal).mono ?_
          rintro e w4 ⟨rfl, hb4⟩
          have hal4 := hal.trans (hb4.mono hal.size)
          have hb5 := heap_below' hb3 hb4
          have x2 : w4.cell? ⟨w.heap.size, 2, none⟩ = some (.int .i64 K) := by simp [World.cell?, hb5]
          have cS4 := cS w4 hal4
          clear cK cS hb4 cH x0 hb3 hb5
          go_wp2_with fail
          refine cS4.mono ?_
          rintro e w5 ⟨rfl, hb5⟩
          have HB := hid (hal4.trans (hb5.mono hal4.size))
          clear hb5 cS4 x2
          go_wp2
          go_ret
          exact ⟨by rw [hR3.out]; rfl, HB.out⟩
end Go.Proofs.Ytngllipfnbmpeaa
