/- TreePaths: true, in memory of its own. Conditions: sizes. -/
import Derived.Test.YtngllipfnbmpeaaAlive07
namespace Go.Proofs.Ytngllipfnbmpeaa
open Go.RowKit
open Go.Lib (hid)

theorem path_free {p : List UInt8} (h : 0 ∉ p) {b : List UInt8} (hb : 0 ∉ b) : 0 ∉ pathL p ++ b := by
  simp [pathL_free h, hb]
set_option maxRecDepth 100000 in
set_option maxHeartbeats 4000000 in
theorem paths_walk (p : List UInt8) (w : World) (hs : p.length ≤ 1048576) :
    Calls Try.prog 4 #[encS p] w fun e w' => e = .returned (.bool true) ∧ Below w.heap.size w w' := by
  have cA := alive_any w
  have hpl := pathL_len p
  have c1 := fun W => tPath_any p W (by omega)
  by_cases hp : 0 ∉ p ∧ p ≠ []
  · have c2 := fun W => tPath_any (pathL p) W (by omega)
    have c3 := fun W => tPath_any (pathL p ++ [47, 120, 47, 46, 46, 47, 46]) W (by simp; omega)
    have c4 := fun W => tPath_any ([47] ++ p ++ [47, 47]) W (by simp; omega)
    rw [pathQ_ok hp] at c1
    rw [pathQ_ok ⟨pathL_free hp.1, pathL_ne p⟩, path_path] at c2
    rw [pathQ_ok ⟨path_free hp.1 (by decide), by simp⟩, show pathL (pathL p ++ [47, 120, 47, 46, 46, 47, 46]) = pathL p from congrArg joinL (parts_more p)] at c3
    rw [pathQ_ok ⟨by simp [hp.1], by simp⟩, show pathL ([47] ++ p ++ [47, 47]) = pathL p from congrArg joinL (by rw [List.append_assoc]; exact parts_around p)] at c4
    obtain ⟨r, hr⟩ := join_head (partsL p)
    have hr : pathL p = 47 :: r := hr
    rw [hr] at c1 c2 c3 c4
    rw [hr] at hpl
    have hrl : r.length ≤ 1048576 := by simp at hpl; omega
    clear hpl
    clear hp hr
    go_enter Try.func4, Try.ntmps4
    go_wp2_with fail
    refine cA.mono ?_
    rintro e w1 ⟨rfl, hb1⟩
    have HB := hid hb1
    clear hb1 cA
    go_wp2_with fail
    refine (c1 _).mono ?_
    rintro e w2 ⟨rfl, hb2⟩
    have HB2 := hid (HB.out.trans (hb2.mono HB.out.size))
    clear hb2 c1
    go_wp2_with fail
    refine (num_any _ _).mono ?_
    rintro e w3 ⟨rfl, rfl⟩
    go_wp2_with fail
    refine (c2 _).mono ?_
    rintro e w3 ⟨rfl, hb3⟩
    have HB3 := hid (HB2.out.trans (hb3.mono HB2.out.size))
    clear hb3 c2
    go_wp2_with fail
    rw [show (⟨#[47, 120, 47, 46, 46, 47, 46]⟩ : ByteArray) = ⟨([47, 120, 47, 46, 46, 47, 46] : List UInt8).toArray⟩ from rfl, bytes_app]
    refine (c3 _).mono ?_
    rintro e w4 ⟨rfl, hb4⟩
    have HB4 := hid (HB3.out.trans (hb4.mono HB3.out.size))
    clear hb4 c3
    go_wp2_with fail
    rw [show (⟨#[47]⟩ : ByteArray) = ⟨([47] : List UInt8).toArray⟩ from rfl, show (⟨#[47, 47]⟩ : ByteArray) = ⟨([47, 47] : List UInt8).toArray⟩ from rfl, bytes_app, bytes_app]
    refine (c4 _).mono ?_
    rintro e w5 ⟨rfl, hb5⟩
    have HB5 := hid (HB4.out.trans (hb5.mono HB4.out.size))
    clear hb5 c4
    have g1 : ((((⟨(47 :: r).toArray⟩ : ByteArray)[0]'(by rw [mk_size]; simp)).toNat : Int) == 47) = true := by rw [mk_get (47 :: r) 0 (by simp)]; rfl
    have sz := mk_size (47 :: r)
    go_wp2_with (go_at_call 9; refine (num_any _ _).mono ?_; rintro e w6 ⟨rfl, rfl⟩)
    go_ret
    exact ⟨rfl, HB5.out⟩
  · rw [pathQ_bad hp] at c1
    clear hp hpl
    go_enter Try.func4, Try.ntmps4
    go_wp2_with fail
    refine cA.mono ?_
    rintro e w1 ⟨rfl, hb1⟩
    have HB := hid hb1
    clear hb1 cA
    go_wp2_with fail
    refine (c1 _).mono ?_
    rintro e w2 ⟨rfl, hb2⟩
    have HB2 := hid (HB.out.trans (hb2.mono HB.out.size))
    clear hb2 c1
    go_wp2_with (go_at_call 9; refine (num_any _ _).mono ?_; rintro e w6 ⟨rfl, rfl⟩)
    go_ret
    exact ⟨rfl, HB2.out⟩
end Go.Proofs.Ytngllipfnbmpeaa
