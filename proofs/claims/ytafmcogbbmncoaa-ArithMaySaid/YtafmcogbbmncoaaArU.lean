/- Contract of arith's stepped: a variable, and ++ or -- behind it. No conditions but sizes. -/
import Derived.Test.YtafmcogbbmncoaaArS
import Derived.Deep.RegionHeld3
import Derived.Deep.RegionWith
namespace Go.Proofs.Ytafmcogbbmncoaa
open Go.RowKit
open Go.Lib (hid)

theorem cat_list (x y : List UInt8) : (⟨x.toArray⟩ : ByteArray) ++ ⟨y.toArray⟩ = ⟨(x ++ y).toArray⟩ := by
  apply ByteArray.ext
  simp

set_option maxHeartbeats 1000000 in
theorem stepped_any (B : Nat) (s : ByteArray) (bash : Bool) (st : St) (d : Nat) (w : World) (h : Rd w B s bash st d) (hg : Good s.size st) (hs : s.size ≤ 16384) (h3 : st.kind = 3) :
    Calls Try.prog 92 #[.pointer (some ⟨B, 0, none⟩)] w fun e w' => Kept B w w' ∧
      if isB (nxL bash s.data.toList st.at_) [43, 43] || isB (nxL bash s.data.toList st.at_) [45, 45] then
        (∃ A c, e = .returned (.agg #[.string ⟨([112, 111, 115, 116] ++ (nxL bash s.data.toList st.at_).text).toArray⟩, .string ⟨#[]⟩, .int .i64 0, .slice A 1 c]) ∧ Tree w' (fun g => w.heap.size ≤ g) A c (.one ([112, 111, 115, 116] ++ (nxL bash s.data.toList st.at_).text) (.leaf st.text 0)) ∧ Rd w' B s bash (nxL bash s.data.toList (nxL bash s.data.toList st.at_).at_) d)
      else e = .returned (.agg #[.string ⟨#[]⟩, .string ⟨st.text.toArray⟩, .int .i64 0, .slice none 0 0]) ∧ Rd w' B s bash (nxL bash s.data.toList st.at_) d := by
  have hB := h.lt
  have hg1 := (nx_good bash s.data.toList st.at_ (by rw [len_toList]; exact hg.at_le)).1
  rw [len_toList] at hg1
  have hA := h.alloc (.cells #[.string ⟨#[]⟩, .string ⟨#[]⟩, .int .i64 0, .slice none 0 0] 24)
  have hK := (Kept.refl B w).alloc (.cells #[.string ⟨#[]⟩, .string ⟨#[]⟩, .int .i64 0, .slice none 0 0] 24)
  have hV := Var4z.new w
  have cV := variable_any B s bash st d _ hA hg hs
  simp only [h3, if_true] at cV
  generalize nxL bash s.data.toList st.at_ = st1 at *
  have cI0 := is_two [43, 43] [45, 45] B s bash st1 d
  have hl1 := hg1.len
  generalize (isB st1 [43, 43] || isB st1 [45, 45]) = q at *
  go_enter Try.func92, Try.ntmps92
  generalize hw0 : w.alloc (.cells #[.string ⟨#[]⟩, .string ⟨#[]⟩, .int .i64 0, .slice none 0 0] 24) = w0 at *
  clear h3 hg
  go_wp2_with fail
  refine cV.mono ?_
  rintro e w1 ⟨hk1, rfl, hr1⟩
  have hv1 := hV.kept hk1 (by omega)
  have hk1 := hK.trans hk1
  have hX : Var4 (w1.alloc (.cells #[.string ⟨#[]⟩, .string ⟨st.text.toArray⟩, .int .i64 0, .slice none 0 0] 24)) w1.heap.size (.string ⟨#[]⟩) (.string ⟨st.text.toArray⟩) (.int .i64 0) (.slice none 0 0) := heap_alloc_new _ _
  have hr2 := hr1.alloc (.cells #[.string ⟨#[]⟩, .string ⟨st.text.toArray⟩, .int .i64 0, .slice none 0 0] 24)
  have hv2 := hv1.alloc (.cells #[.string ⟨#[]⟩, .string ⟨st.text.toArray⟩, .int .i64 0, .slice none 0 0] 24)
  have hk2 := hk1.alloc (.cells #[.string ⟨#[]⟩, .string ⟨st.text.toArray⟩, .int .i64 0, .slice none 0 0] 24)
  have hlt := hv1.lt
  clear cV hA hK hV hw0 hv1 hr1 hk1
  have hs2 : (w1.alloc (.cells #[.string ⟨#[]⟩, .string ⟨st.text.toArray⟩, .int .i64 0, .slice none 0 0] 24)).heap.size = w1.heap.size + 1 := World.size_alloc ..
  go_wp2_with fail
  generalize w1.alloc (.cells #[.string ⟨#[]⟩, .string ⟨st.text.toArray⟩, .int .i64 0, .slice none 0 0] 24) = w2 at *
  have cI := cI0 w2 hr2
  rw [hs2] at cI
  refine cI.mono ?_
  rintro e w3 ⟨rfl, rfl⟩
  have hr3 := hr2.alloc (.cells #[.string ⟨[43, 43].toArray⟩, .string ⟨[45, 45].toArray⟩] 9)
  have hX3 := hX.alloc (.cells #[.string ⟨[43, 43].toArray⟩, .string ⟨[45, 45].toArray⟩] 9)
  have hv3 := hv2.alloc (.cells #[.string ⟨[43, 43].toArray⟩, .string ⟨[45, 45].toArray⟩] 9)
  have hk3 := hk2.alloc (.cells #[.string ⟨[43, 43].toArray⟩, .string ⟨[45, 45].toArray⟩] 9)
  generalize w2.alloc (.cells #[.string ⟨[43, 43].toArray⟩, .string ⟨[45, 45].toArray⟩] 9) = w3 at *
  have x0 := hX3.a0; have x1 := hX3.a1; have x2 := hX3.a2; have x3 := hX3.a3
  have v0 := hv3.a0; have v1 := hv3.a1; have v2 := hv3.a2; have v3 := hv3.a3
  have f0 := hv3.free 0; have f1 := hv3.free 1; have f2 := hv3.free 2; have f3 := hv3.free 3
  clear cI cI0 hr2 hX hv2 hk2 hs2
  cases q
  · go_wp2_with fail
    exact ret_sum rfl rfl (hv3.set _ _ _ _) rfl ⟨hk3.set4 (Nat.le_refl _) _ _ _ _, rfl, hr3.set4 (by omega) _ _ _ _⟩
  · have cT := fun W (hR : Rd W B s bash st1 d) => take_any B s bash st1 d W hR hs hg1.at_le
    have hN : w1.heap.size ≠ B := by have := hr3.lt; omega
    have hsz := size_list st1.text
    have hl2 : (st1.text.length : Int) ≤ 16384 := by omega
    have he : (⟨#[112, 111, 115, 116]⟩ : ByteArray) ++ ⟨st1.text.toArray⟩ = ⟨([112, 111, 115, 116] ++ st1.text).toArray⟩ := cat_list [112, 111, 115, 116] st1.text
    have cM : ∀ (A : Option Addr) (k c : Nat) (W : World), Calls Try.prog 64 #[.string ((⟨#[112, 111, 115, 116]⟩ : ByteArray) ++ ⟨st1.text.toArray⟩), .slice A k c] W fun e w' => e = .returned (.agg #[.string ((⟨#[112, 111, 115, 116]⟩ : ByteArray) ++ ⟨st1.text.toArray⟩), .string ⟨#[]⟩, .int .i64 0, .slice A k c]) ∧ Below W.heap.size W w' := fun A k c W => by
      rw [he]; exact made_any ([112, 111, 115, 116] ++ st1.text) (by simp; omega) A k c W
    have HE := hid he
    clear he
    have hN0 : w.heap.size ≠ B := by omega
    have hNe : w3.heap.size ≠ B := by have := hr3.lt; omega
    have hs3 : w.heap.size < w3.heap.size := hv3.lt
    have hr3a : ∀ o, Rd (w3.alloc o).drew B s bash st1 d := fun o => hr3.alloc o
    have hv3a : ∀ o, Var4z (w3.alloc o).drew w.heap.size := fun o => hv3.alloc o
    have hk3a : ∀ o, Kept B w (w3.alloc o).drew := fun o => (hk3.alloc o).drew
    have hn3a : ∀ o, (w3.alloc o).drew.heap[w3.heap.size]? = some o := fun o => heap_alloc_new w3 o
    have hl3a : ∀ o, w3.heap.size < (w3.alloc o).drew.heap.size := fun o => lt_of_block (hn3a o)
    have hr3 : Rd w3.drew B s bash st1 d := hr3
    have hX3 : Var4 w3.drew w1.heap.size (.string ⟨#[]⟩) (.string ⟨st.text.toArray⟩) (.int .i64 0) (.slice none 0 0) := hX3
    have hv3 : Var4z w3.drew w.heap.size := hv3
    have hk3 := hk3.drew
    go_wp2_with fail
    go_region_with (first
      | (go_at_call 63; with_reducible refine (cT _ hr3).mono ?_; rintro e w4 ⟨rfl, hr4, hk4⟩; have hx4 := hX3.kept hk4 hN; have hv4 := hv3.kept hk4 hN0; have hK4 := hk3.trans hk4; have hs4 := Nat.lt_of_lt_of_le hs3 hk4.size
         have y0 := hx4.a0; have y1 := hx4.a1; have y2 := hx4.a2; have y3 := hx4.a3)
      | (go_at_call 63; with_reducible refine (cT _ (hr3a _)).mono ?_; rintro e w4 ⟨rfl, hr4, hk4⟩; have hv4 := (hv3a _).kept hk4 hN0; have hK4 := (hk3a _).trans hk4; have hP4 := (hk4.block w3.heap.size (hl3a _) hNe).trans (hn3a _))
      | (go_at_call 64; with_reducible refine (cM _ _ _ _).mono ?_; rintro e w5 ⟨rfl, hb5⟩
         first
         | (have hv5 := hv4.below hb5; have hr5 := hr4.below hb5; have hK5 := hK4.trans (.of_below hb5); have hP5 := (hb5.block _ (lt_of_block hP4)).trans hP4; have z0 := hv5.a0; have z1 := hv5.a1; have z2 := hv5.a2; have z3 := hv5.a3; have q0 := hv5.free 0; have q1 := hv5.free 1; have q2 := hv5.free 2; have q3 := hv5.free 3)
         | (have hv5 := (hv4.alloc _).below hb5; have hr5 := (hr4.alloc _).below hb5; have hK5 := (hK4.alloc _).trans (.of_below hb5); have hP5 := (hb5.block _ (by simp)).trans (heap_alloc_new _ _); have z0 := hv5.a0; have z1 := hv5.a1; have z2 := hv5.a2; have z3 := hv5.a3; have q0 := hv5.free 0; have q1 := hv5.free 1; have q2 := hv5.free 2; have q3 := hv5.free 3)))
    all_goals
      go_wp2_with fail
      refine ret_sum rfl rfl (hv5.set _ _ _ _) rfl ⟨hK5.set4 (Nat.le_refl _) _ _ _ _, ?_⟩
      exact ⟨_, _, by rw [HE.out]; rfl, ((show Tree w5 (fun g => w.heap.size + 1 ≤ g) _ _ (.one ([112, 111, 115, 116] ++ st1.text) (.leaf st.text 0)) from ⟨_, none, 0, rfl, rfl, by omega, hP5, rfl, rfl⟩).set4 (fun g hg e => by omega) _ _ _ _).weaken (fun g _ hg => by omega), hr5.set4 (by omega) _ _ _ _⟩
end Go.Proofs.Ytafmcogbbmncoaa
