/- TreePuts: true, in memory of its own. Conditions: sizes. -/
import Derived.Test.YtngllipfnbmpeaaRem07
namespace Go.Proofs.Ytngllipfnbmpeaa
open Go.RowKit
open Go.Lib (hid)

theorem putQ_mem {t : List ND} {p x : List UInt8} {y : ND} (h : y ∈ (putQ t p x).1) : y = ⟨pathL p, false, x⟩ ∨ y ∈ t := by
  by_cases he : (putQ t p x).2 = 0
  · rw [(putQ_ok he).2.2.2.1] at h
    exact ((ins_mem _).1 h).imp id fun h => h.1
  · rw [putQ_err he] at h; cases h
theorem putQ_len (t : List ND) (p x : List UInt8) : (putQ t p x).1.length ≤ 256 := by
  by_cases he : (putQ t p x).2 = 0
  · obtain ⟨-, -, -, e, h⟩ := putQ_ok he
    rw [e]; exact h.1
  · rw [putQ_err he]; exact Nat.zero_le _
theorem addQ_mem {t : List ND} {p x : List UInt8} {y : ND} (h : y ∈ (addQ t p x).1) : y = ⟨pathL p, false, (getQ t p).1 ++ x⟩ ∨ y ∈ t := by
  unfold addQ at h
  split at h
  · cases h
  · exact putQ_mem h
theorem addQ_len (t : List ND) (p x : List UInt8) : (addQ t p x).1.length ≤ 256 := by
  unfold addQ
  split
  · exact Nat.zero_le _
  · exact putQ_len _ _ _
theorem check_ok {t : List ND} (h : OkT t) : checkL t = 0 := by unfold checkL; rw [if_pos h]

set_option maxRecDepth 100000 in
set_option maxHeartbeats 8000000 in
theorem puts_walk (A : Option Addr) (c : Nat) (t : List ND) (p x y : List UInt8) (w : World) (hT : NodesP w (fun _ => True) A t) (hl : t.length ≤ 1048576 ∧ t.length ≤ c) (hz : ∀ n ∈ t, n.p.length ≤ 1048576 ∧ n.x.length ≤ 1048576) (hp : p.length ≤ 1048576) (hx : x.length ≤ 1048576) (hy : y.length ≤ 1048576) :
    Calls Try.prog 3 #[.slice A t.length c, encS p, encS x, encS y] w fun e w' => e = .returned (.bool true) ∧ Below w.heap.size w w' := by
  have hzt : SizeT t := fun n hn => by have := hz n hn; omega
  have hpl := pathL_len p
  have cA := alive_any w
  have cP := fun W (hb : Below w.heap.size w W) => tPut_any A c t p x W (hT.below hb) ⟨by omega, hl.2⟩ hzt (by omega) (by omega)
  by_cases he : (putQ t p x).2 = 0
  · obtain ⟨m1, m2, m3, m4, m5, m6, m7⟩ := puts_math (b := y) he
    have zX : SizeT (putQ t p x).1 := fun n hn => by
      rcases putQ_mem hn with rfl | h
      · constructor
        · show (pathL p).length ≤ _; omega
        · show x.length ≤ _; omega
      · exact hzt n h
    have lX := putQ_len t p x
    generalize putQ t p x = X at *
    obtain ⟨X1, X2⟩ := X
    simp only at he m1 m2 m3 m4 m5 m6 m7 zX lX
    subst he
    have zY : SizeT (addQ X1 p y).1 := fun n hn => by
      rcases addQ_mem hn with rfl | h
      · constructor
        · show (pathL p).length ≤ _; omega
        · show ((getQ X1 p).1 ++ y).length ≤ _
          rw [m3, List.length_append]
          show x.length + y.length ≤ _
          omega
      · exact zX n h
    have zZ : SizeT (remQ X1 p false).1 := fun n hn => zX n (remQ_mem hn)
    have lY := addQ_len X1 p y
    have lZ := remQ_len X1 p false
    have cD := fun a c' W (h : NodesP W (fun _ => True) a X1) (hc : X1.length ≤ c') => tAdd_any a c' X1 p y W h ⟨by omega, hc⟩ zX (by omega) (by omega)
    have cR := fun a c' W (h : NodesP W (fun _ => True) a X1) (hc : X1.length ≤ c') => tRemove_any a c' X1 p false W h ⟨by omega, hc⟩ zX (by omega)
    have cG := fun a c' W (h : NodesP W (fun _ => True) a X1) (hc : X1.length ≤ c') => tGet_any a c' X1 p W h ⟨by omega, hc⟩ zX (by omega)
    have cKX := fun a c' W (h : NodesP W (fun _ => True) a X1) (hc : X1.length ≤ c') => tKind_any a c' X1 p W h ⟨by omega, hc⟩ zX (by omega)
    have cCX := fun a c' W (h : NodesP W (fun _ => True) a X1) (hc : X1.length ≤ c') => tCheck_any a c' X1 W h (by omega) zX hc
    rw [m3] at cG
    rw [m7] at cKX
    rw [check_ok m1] at cCX
    have hYe : (addQ X1 p y).2 ≠ 0 → (addQ X1 p y).1 = [] := addQ_err
    generalize addQ X1 p y = Y at *
    generalize remQ X1 p false = Z at *
    obtain ⟨Y1, Y2⟩ := Y
    obtain ⟨Z1, Z2⟩ := Z
    simp only at m2 m4 m5 m6 zY zZ lY lZ hYe
    subst m2
    have cGY := fun a c' W (h : NodesP W (fun _ => True) a Y1) (hc : Y1.length ≤ c') => tGet_any a c' Y1 p W h ⟨by omega, hc⟩ zY (by omega)
    have cCY := fun a c' W (h : NodesP W (fun _ => True) a Y1) (hc : Y1.length ≤ c') => tCheck_any a c' Y1 W h (by omega) zY hc
    have cCZ := fun a c' W (h : NodesP W (fun _ => True) a Z1) (hc : Z1.length ≤ c') => tCheck_any a c' Z1 W h (by omega) zZ hc
    have cKZ := fun a c' W (h : NodesP W (fun _ => True) a Z1) (hc : Z1.length ≤ c') => tKind_any a c' Z1 p W h ⟨by omega, hc⟩ zZ (by omega)
    rw [check_ok m5] at cCZ
    rw [m6] at cKZ
    have hY : (Y2 = 0 ∧ getQ Y1 p = (x ++ y, 0) ∧ checkL Y1 = 0) ∨ ((Y2 == 0) = false ∧ Y1 = []) := by
      by_cases h : Y2 = 0
      · exact .inl ⟨h, (m4 h).1, check_ok (m4 h).2⟩
      · exact .inr ⟨by simpa using h, hYe h⟩
    clear hT hz hzt hpl m1 m3 m4 m5 m6 m7 zX zY zZ hYe
    generalize checkL Y1 = CY at *
    generalize getQ Y1 p = GY at *
    obtain ⟨GY1, GY2⟩ := GY
    go_enter Try.func3, Try.ntmps3
    go_wp2_with fail
    refine cA.mono ?_
    rintro e w1 ⟨rfl, hb1⟩
    have cP1 := cP w1 hb1
    have HB1 := hid hb1
    clear hb1 cA cP
    go_wp2_with fail
    refine cP1.mono ?_
    rintro e w2 ⟨a, c', rfl, hO, hb2⟩
    have HB2 := hid (HB1.out.trans (hb2.mono HB1.out.size))
    have HX := hid (OwnN.nodes hO |>.any)
    have LX := hid (own_cap hO)
    have cD2 := cD a c' w2 HX.out LX.out
    clear hb2 cP1 hO cD
    go_wp2_with (go_at_call 9; refine (num_any _ _).mono ?_; rintro e w6 ⟨rfl, rfl⟩)
    refine cD2.mono ?_
    rintro e w3 ⟨a3, c3, rfl, hO, hb3⟩
    have HB3 := hid (HB2.out.trans (hb3.mono HB2.out.size))
    have HX3 := hid (HX.out.below hb3)
    have HY := hid (OwnN.nodes hO |>.any)
    have LY := hid (own_cap hO)
    have cR3 := cR a c' w3 HX3.out LX.out
    clear hb3 cD2 hO cR HX
    go_wp2_with fail
    refine cR3.mono ?_
    rintro e w4 ⟨a4, c4, rfl, hO, hb4⟩
    have HB4 := hid (HB3.out.trans (hb4.mono HB3.out.size))
    have HX4 := hid (HX3.out.below hb4)
    have HY4 := hid (HY.out.below hb4)
    have HZ := hid (OwnN.nodes hO |>.any)
    have LZ := hid (own_cap hO)
    have cG4 := cG a c' w4 HX4.out LX.out
    clear hb4 cR3 hO cG HX3 HY
    go_wp2_with fail
    refine cG4.mono ?_
    rintro e w5 ⟨rfl, hb5⟩
    have HB5 := hid (HB4.out.trans (hb5.mono HB4.out.size))
    have HX5 := hid (HX4.out.below hb5)
    have HY5 := hid (HY4.out.below hb5)
    have HZ5 := hid (HZ.out.below hb5)
    have cG5 := cGY a3 c3 w5 HY5.out LY.out
    clear hb5 cG4 cGY HX4 HY4 HZ
    go_wp2_with fail
    refine cG5.mono ?_
    rintro e w6 ⟨rfl, hb6⟩
    have HB6 := hid (HB5.out.trans (hb6.mono HB5.out.size))
    have HX6 := hid (HX5.out.below hb6)
    have HY6 := hid (HY5.out.below hb6)
    have HZ6 := hid (HZ5.out.below hb6)
    have cC6 := cCX a c' w6 HX6.out LX.out
    clear hb6 cG5 cCX HX5 HY5 HZ5
    have e47 : ((⟨x.toArray⟩ : ByteArray) ++ ⟨y.toArray⟩).toList = x ++ y := by
      rw [bytes_app]
      simp
    rcases hY with ⟨rfl, hG, rfl⟩ | ⟨hY2, rfl⟩
    · obtain ⟨rfl, rfl⟩ := Prod.mk.inj hG
      have hy0 : (Y1 = []) ∨ ((Y1.length == 0) = false ∧ ((Y1.length : Int) == 0) = false) := by
        cases Y1 with
        | nil => exact .inl rfl
        | cons q r => exact .inr ⟨rfl, by simp; omega⟩
      clear hG
      go_wp2_with (go_at_call 9; refine (num_any _ _).mono ?_; rintro e w6 ⟨rfl, rfl⟩)
      refine cC6.mono ?_
      rintro e w7 ⟨rfl, hb7⟩
      have HB7 := hid (HB6.out.trans (hb7.mono HB6.out.size))
      have HX7 := hid (HX6.out.below hb7)
      have HY7 := hid (HY6.out.below hb7)
      have HZ7 := hid (HZ6.out.below hb7)
      have cC7 := cCZ a4 c4 w7 HZ7.out LZ.out
      clear hb7 cC6 cCZ HX6 HY6 HZ6
      go_wp2_with (go_at_call 9; refine (num_any _ _).mono ?_; rintro e w6 ⟨rfl, rfl⟩)
      refine cC7.mono ?_
      rintro e w8 ⟨rfl, hb8⟩
      have HB8 := hid (HB7.out.trans (hb8.mono HB7.out.size))
      have HX8 := hid (HX7.out.below hb8)
      have HY8 := hid (HY7.out.below hb8)
      have HZ8 := hid (HZ7.out.below hb8)
      have cC8 := cCY a3 c3 w8 HY8.out LY.out
      clear hb8 cC7 cCY HX7 HY7 HZ7
      rcases hy0 with rfl | ⟨_, hy0⟩
      · clear cC8
        have cK8 := cKZ a4 c4 w8 HZ8.out LZ.out
        clear cKZ
        go_wp2_with (go_at_call 9; refine (num_any _ _).mono ?_; rintro e w6 ⟨rfl, rfl⟩)
        refine cK8.mono ?_
        rintro e w9 ⟨rfl, hb9⟩
        have HB9 := hid (HB8.out.trans (hb9.mono HB8.out.size))
        have HX9 := hid (HX8.out.below hb9)
        have cK9 := cKX a c' w9 HX9.out LX.out
        clear hb9 cK8 cKX
        go_wp2_with fail
        refine cK9.mono ?_
        rintro e w10 ⟨rfl, hb10⟩
        have HB10 := hid (HB9.out.trans (hb10.mono HB9.out.size))
        clear hb10 cK9
        go_wp2_with fail
        go_ret
        exact ⟨rfl, HB10.out⟩
      · go_wp2_with (go_at_call 9; refine (num_any _ _).mono ?_; rintro e w6 ⟨rfl, rfl⟩)
        refine cC8.mono ?_
        rintro e w9 ⟨rfl, hb9⟩
        have HB9 := hid (HB8.out.trans (hb9.mono HB8.out.size))
        have HX9 := hid (HX8.out.below hb9)
        have HZ9 := hid (HZ8.out.below hb9)
        clear hb9 cC8 HX8 HZ8
        have cK9 := cKZ a4 c4 w9 HZ9.out LZ.out
        clear cKZ
        go_wp2_with (go_at_call 9; refine (num_any _ _).mono ?_; rintro e w6 ⟨rfl, rfl⟩)
        refine cK9.mono ?_
        rintro e w10 ⟨rfl, hb10⟩
        have HB10 := hid (HB9.out.trans (hb10.mono HB9.out.size))
        have HX10 := hid (HX9.out.below hb10)
        have cK10 := cKX a c' w10 HX10.out LX.out
        clear hb10 cK9 cKX
        go_wp2_with fail
        refine cK10.mono ?_
        rintro e w11 ⟨rfl, hb11⟩
        have HB11 := hid (HB10.out.trans (hb11.mono HB10.out.size))
        clear hb11 cK10
        go_wp2_with fail
        go_ret
        exact ⟨rfl, HB11.out⟩
    · have hY2' : (Y2 != 0) = true := by simpa using hY2
      go_wp2_with (go_at_call 9; refine (num_any _ _).mono ?_; rintro e w6 ⟨rfl, rfl⟩)
      refine cC6.mono ?_
      rintro e w7 ⟨rfl, hb7⟩
      have HB7 := hid (HB6.out.trans (hb7.mono HB6.out.size))
      have HX7 := hid (HX6.out.below hb7)
      have HZ7 := hid (HZ6.out.below hb7)
      have cC7 := cCZ a4 c4 w7 HZ7.out LZ.out
      clear hb7 cC6 cCZ HX6 HY6 HZ6
      go_wp2_with (go_at_call 9; refine (num_any _ _).mono ?_; rintro e w6 ⟨rfl, rfl⟩)
      refine cC7.mono ?_
      rintro e w8 ⟨rfl, hb8⟩
      have HB8 := hid (HB7.out.trans (hb8.mono HB7.out.size))
      have HX8 := hid (HX7.out.below hb8)
      have HZ8 := hid (HZ7.out.below hb8)
      clear hb8 cC7 cCY HX7 HZ7
      have cK8 := cKZ a4 c4 w8 HZ8.out LZ.out
      clear cKZ
      go_wp2_with (go_at_call 9; refine (num_any _ _).mono ?_; rintro e w6 ⟨rfl, rfl⟩)
      refine cK8.mono ?_
      rintro e w9 ⟨rfl, hb9⟩
      have HB9 := hid (HB8.out.trans (hb9.mono HB8.out.size))
      have HX9 := hid (HX8.out.below hb9)
      have cK9 := cKX a c' w9 HX9.out LX.out
      clear hb9 cK8 cKX
      go_wp2_with fail
      refine cK9.mono ?_
      rintro e w10 ⟨rfl, hb10⟩
      have HB10 := hid (HB9.out.trans (hb10.mono HB9.out.size))
      clear hb10 cK9
      go_wp2_with fail
      go_ret
      exact ⟨rfl, HB10.out⟩
  · have hx := putQ_err he
    have q1 : ((putQ t p x).2 == 0) = false := by simpa using he
    have q1' : ((putQ t p x).2 != 0) = true := by simpa using he
    generalize putQ t p x = X at *
    obtain ⟨X1, X2⟩ := X
    simp only at q1 q1' hx
    subst hx
    clear hT hz hzt he hpl
    go_enter Try.func3, Try.ntmps3
    go_wp2_with fail
    refine cA.mono ?_
    rintro e w1 ⟨rfl, hb1⟩
    have cP1 := cP w1 hb1
    have HB1 := hid hb1
    clear hb1 cA cP
    go_wp2_with fail
    refine cP1.mono ?_
    rintro e w2 ⟨a, c', rfl, hO, hb2⟩
    have HB2 := hid (HB1.out.trans (hb2.mono HB1.out.size))
    clear hb2 cP1 hO
    go_wp2_with (go_at_call 9; refine (num_any _ _).mono ?_; rintro e w6 ⟨rfl, rfl⟩)
    go_ret
    exact ⟨rfl, HB2.out⟩
end Go.Proofs.Ytngllipfnbmpeaa
