/- Contract of arith's stepped: a variable, and ++ or -- behind it. No conditions but sizes. What reading an expression promises in memory; contract of arith's within, whatever it reads. No conditions but sizes. Contracts of arith's reader functions by induction on fuel: above. No conditions but sizes. -/
import Derived.Test.YthgmilllinbcjaaGreatDoorGD
import Derived.Deep.RegionHeld3
import Derived.Deep.RegionWith
import Derived.Laws.EntriesVeiled
import Derived.Deep.LoopGhost
namespace Go.Proofs.YthgmilllinbcjaaGreatDoor
open Go.RowKit
open Go.Lib (hid)

theorem cat_list (x y : List UInt8) : (⟨x.toArray⟩ : ByteArray) ++ ⟨y.toArray⟩ = ⟨(x ++ y).toArray⟩ := by
  apply ByteArray.ext
  simp

set_option maxHeartbeats 1000000 in
theorem stepped_any (B : Nat) (s : ByteArray) (bash : Bool) (st : St) (d : Nat) (w : World) (h : Rd w B s bash st d) (hg : Good s.size st) (hs : s.size ≤ 16384) (h3 : st.kind = 3) :
    Calls Tryz.prog 138 #[.pointer (some ⟨B, 0, none⟩)] w fun e w' => Kept B w w' ∧
      if isB (nxL bash s.data.toList st.at_) [43, 43] || isB (nxL bash s.data.toList st.at_) [45, 45] then
        (∃ A c, e = .returned (.agg #[.string ⟨([112, 111, 115, 116] ++ (nxL bash s.data.toList st.at_).text).toArray⟩, .string ⟨#[]⟩, .int .i64 0, .slice A 1 c]) ∧ Tree w' (fun g => w.heap.size ≤ g) A c (.one ([112, 111, 115, 116] ++ (nxL bash s.data.toList st.at_).text) (.leaf st.text 0)) ∧ Rd w' B s bash (nxL bash s.data.toList (nxL bash s.data.toList st.at_).at_) d)
      else e = .returned (.agg #[.string ⟨#[]⟩, .string ⟨st.text.toArray⟩, .int .i64 0, .slice none 0 0]) ∧ Rd w' B s bash (nxL bash s.data.toList st.at_) d := by
  have hB := h.lt
  have hg1 := (nx_good bash s.data.toList st.at_ (by rw [len_toList]; exact hg.at_le)).1
  rw [len_toList] at hg1
  have hA := h.alloc (.cells #[.string ⟨#[]⟩, .string ⟨#[]⟩, .int .i64 0, .slice none 0 0] 24)
  have hK := (Kept.refl B w).alloc (.cells #[.string ⟨#[]⟩, .string ⟨#[]⟩, .int .i64 0, .slice none 0 0] 24)
  have hV := Var4z.new w
  have cV := variable_any B s bash st d _ hA hg hs
  simp only [h3, if_true] at cV
  generalize nxL bash s.data.toList st.at_ = st1 at *
  have cI0 := is_two [43, 43] [45, 45] B s bash st1 d
  have hl1 := hg1.len
  generalize (isB st1 [43, 43] || isB st1 [45, 45]) = q at *
  go_enter Tryz.func138, Tryz.ntmps138
  generalize hw0 : w.alloc (.cells #[.string ⟨#[]⟩, .string ⟨#[]⟩, .int .i64 0, .slice none 0 0] 24) = w0 at *
  clear h3 hg
  go_wp2_with fail
  refine cV.mono ?_
  rintro e w1 ⟨hk1, rfl, hr1⟩
  have hv1 := hV.kept hk1 (by omega)
  have hk1 := hK.trans hk1
  have hX : Var4 (w1.alloc (.cells #[.string ⟨#[]⟩, .string ⟨st.text.toArray⟩, .int .i64 0, .slice none 0 0] 24)) w1.heap.size (.string ⟨#[]⟩) (.string ⟨st.text.toArray⟩) (.int .i64 0) (.slice none 0 0) := heap_alloc_new _ _
  have hr2 := hr1.alloc (.cells #[.string ⟨#[]⟩, .string ⟨st.text.toArray⟩, .int .i64 0, .slice none 0 0] 24)
  have hv2 := hv1.alloc (.cells #[.string ⟨#[]⟩, .string ⟨st.text.toArray⟩, .int .i64 0, .slice none 0 0] 24)
  have hk2 := hk1.alloc (.cells #[.string ⟨#[]⟩, .string ⟨st.text.toArray⟩, .int .i64 0, .slice none 0 0] 24)
  have hlt := hv1.lt
  clear cV hA hK hV hw0 hv1 hr1 hk1
  have hs2 : (w1.alloc (.cells #[.string ⟨#[]⟩, .string ⟨st.text.toArray⟩, .int .i64 0, .slice none 0 0] 24)).heap.size = w1.heap.size + 1 := World.size_alloc ..
  go_wp2_with fail
  generalize w1.alloc (.cells #[.string ⟨#[]⟩, .string ⟨st.text.toArray⟩, .int .i64 0, .slice none 0 0] 24) = w2 at *
  have cI := cI0 w2 hr2
  rw [hs2] at cI
  refine cI.mono ?_
  rintro e w3 ⟨rfl, rfl⟩
  have hr3 := hr2.alloc (.cells #[.string ⟨[43, 43].toArray⟩, .string ⟨[45, 45].toArray⟩] 9)
  have hX3 := hX.alloc (.cells #[.string ⟨[43, 43].toArray⟩, .string ⟨[45, 45].toArray⟩] 9)
  have hv3 := hv2.alloc (.cells #[.string ⟨[43, 43].toArray⟩, .string ⟨[45, 45].toArray⟩] 9)
  have hk3 := hk2.alloc (.cells #[.string ⟨[43, 43].toArray⟩, .string ⟨[45, 45].toArray⟩] 9)
  generalize w2.alloc (.cells #[.string ⟨[43, 43].toArray⟩, .string ⟨[45, 45].toArray⟩] 9) = w3 at *
  have x0 := hX3.a0; have x1 := hX3.a1; have x2 := hX3.a2; have x3 := hX3.a3
  have v0 := hv3.a0; have v1 := hv3.a1; have v2 := hv3.a2; have v3 := hv3.a3
  have f0 := hv3.free 0; have f1 := hv3.free 1; have f2 := hv3.free 2; have f3 := hv3.free 3
  clear cI cI0 hr2 hX hv2 hk2 hs2
  cases q
  · go_wp2_with fail
    exact ret_sum rfl rfl (hv3.set _ _ _ _) rfl ⟨hk3.set4 (Nat.le_refl _) _ _ _ _, rfl, hr3.set4 (by omega) _ _ _ _⟩
  · have cT := fun W (hR : Rd W B s bash st1 d) => take_any B s bash st1 d W hR hs hg1.at_le
    have hN : w1.heap.size ≠ B := by have := hr3.lt; omega
    have hsz := size_list st1.text
    have hl2 : (st1.text.length : Int) ≤ 16384 := by omega
    have he : (⟨#[112, 111, 115, 116]⟩ : ByteArray) ++ ⟨st1.text.toArray⟩ = ⟨([112, 111, 115, 116] ++ st1.text).toArray⟩ := cat_list [112, 111, 115, 116] st1.text
    have cM : ∀ (A : Option Addr) (k c : Nat) (W : World), Calls Tryz.prog 106 #[.string ((⟨#[112, 111, 115, 116]⟩ : ByteArray) ++ ⟨st1.text.toArray⟩), .slice A k c] W fun e w' => e = .returned (.agg #[.string ((⟨#[112, 111, 115, 116]⟩ : ByteArray) ++ ⟨st1.text.toArray⟩), .string ⟨#[]⟩, .int .i64 0, .slice A k c]) ∧ Below W.heap.size W w' := fun A k c W => by
      rw [he]; exact made_any ([112, 111, 115, 116] ++ st1.text) (by simp; omega) A k c W
    have HE := hid he
    clear he
    have hN0 : w.heap.size ≠ B := by omega
    have hNe : w3.heap.size ≠ B := by have := hr3.lt; omega
    have hs3 : w.heap.size < w3.heap.size := hv3.lt
    have hr3a : ∀ o, Rd (w3.alloc o).drew B s bash st1 d := fun o => hr3.alloc o
    have hv3a : ∀ o, Var4z (w3.alloc o).drew w.heap.size := fun o => hv3.alloc o
    have hk3a : ∀ o, Kept B w (w3.alloc o).drew := fun o => (hk3.alloc o).drew
    have hn3a : ∀ o, (w3.alloc o).drew.heap[w3.heap.size]? = some o := fun o => heap_alloc_new w3 o
    have hl3a : ∀ o, w3.heap.size < (w3.alloc o).drew.heap.size := fun o => lt_of_block (hn3a o)
    have hr3 : Rd w3.drew B s bash st1 d := hr3
    have hX3 : Var4 w3.drew w1.heap.size (.string ⟨#[]⟩) (.string ⟨st.text.toArray⟩) (.int .i64 0) (.slice none 0 0) := hX3
    have hv3 : Var4z w3.drew w.heap.size := hv3
    have hk3 := hk3.drew
    go_wp2_with fail
    go_region_with (first
      | (go_at_call 105; with_reducible refine (cT _ hr3).mono ?_; rintro e w4 ⟨rfl, hr4, hk4⟩; have hx4 := hX3.kept hk4 hN; have hv4 := hv3.kept hk4 hN0; have hK4 := hk3.trans hk4; have hs4 := Nat.lt_of_lt_of_le hs3 hk4.size
         have y0 := hx4.a0; have y1 := hx4.a1; have y2 := hx4.a2; have y3 := hx4.a3)
      | (go_at_call 105; with_reducible refine (cT _ (hr3a _)).mono ?_; rintro e w4 ⟨rfl, hr4, hk4⟩; have hv4 := (hv3a _).kept hk4 hN0; have hK4 := (hk3a _).trans hk4; have hP4 := (hk4.block w3.heap.size (hl3a _) hNe).trans (hn3a _))
      | (go_at_call 106; with_reducible refine (cM _ _ _ _).mono ?_; rintro e w5 ⟨rfl, hb5⟩
         first
         | (have hv5 := hv4.below hb5; have hr5 := hr4.below hb5; have hK5 := hK4.trans (.of_below hb5); have hP5 := (hb5.block _ (lt_of_block hP4)).trans hP4; have z0 := hv5.a0; have z1 := hv5.a1; have z2 := hv5.a2; have z3 := hv5.a3; have q0 := hv5.free 0; have q1 := hv5.free 1; have q2 := hv5.free 2; have q3 := hv5.free 3)
         | (have hv5 := (hv4.alloc _).below hb5; have hr5 := (hr4.alloc _).below hb5; have hK5 := (hK4.alloc _).trans (.of_below hb5); have hP5 := (hb5.block _ (by simp)).trans (heap_alloc_new _ _); have z0 := hv5.a0; have z1 := hv5.a1; have z2 := hv5.a2; have z3 := hv5.a3; have q0 := hv5.free 0; have q1 := hv5.free 1; have q2 := hv5.free 2; have q3 := hv5.free 3)))
    all_goals
      go_wp2_with fail
      refine ret_sum rfl rfl (hv5.set _ _ _ _) rfl ⟨hK5.set4 (Nat.le_refl _) _ _ _ _, ?_⟩
      exact ⟨_, _, by rw [HE.out]; rfl, ((show Tree w5 (fun g => w.heap.size + 1 ≤ g) _ _ (.one ([112, 111, 115, 116] ++ st1.text) (.leaf st.text 0)) from ⟨_, none, 0, rfl, rfl, by omega, hP5, rfl, rfl⟩).set4 (fun g hg e => by omega) _ _ _ _).weaken (fun g _ hg => by omega), hr5.set4 (by omega) _ _ _ _⟩
end Go.Proofs.YthgmilllinbcjaaGreatDoor
namespace Go.Proofs.YthgmilllinbcjaaGreatDoor
open Go.RowKit
open Go.Lib (hid)

/-- What reading leaves: the expression and the token behind it, or the fault. -/
def RdPost (B : Nat) (s : ByteArray) (bash : Bool) (d : Nat) (w : World) : Except (Int × Nat) (T × St) → Ending → World → Prop
  | .ok (x, st'), e, w' => Kept B w w' ∧ (∃ A c, e = .returned (.agg #[c0 x, c1 x, c2 x, .slice A (lenT x) c]) ∧ Tree w' (fun g => w.heap.size ≤ g) A c x) ∧ Rd w' B s bash st' d ∧ Good s.size st'
  | .error (e0, p), e, w' => Kept B w w' ∧ e = .panicked [faultV e0 p]

theorem Tree.drew {w : World} {P : Nat → Prop} {A : Option Addr} {c : Nat} {t : T} (h : Tree w P A c t) : Tree w.drew P A c t := Tree.frame (w := w) (w' := w.drew) (fun _ _ hp => ⟨hp, rfl⟩) t h
/-- The same, where older blocks may bear parts of the expression, too. -/
def RdPostO (old : Nat → Prop) (B : Nat) (s : ByteArray) (bash : Bool) (d : Nat) (w : World) : Except (Int × Nat) (T × St) → Ending → World → Prop
  | .ok (x, st'), e, w' => Kept B w w' ∧ (∃ A c, e = .returned (.agg #[c0 x, c1 x, c2 x, .slice A (lenT x) c]) ∧ Tree w' (fun g => old g ∨ w.heap.size ≤ g) A c x) ∧ Rd w' B s bash st' d ∧ Good s.size st'
  | .error (e0, p), e, w' => Kept B w w' ∧ e = .panicked [faultV e0 p]
theorem RdPost.old {old : Nat → Prop} {B : Nat} {s : ByteArray} {bash : Bool} {d : Nat} {w w' : World} {e : Ending} : ∀ {q : Except (Int × Nat) (T × St)}, RdPost B s bash d w q e w' → RdPostO old B s bash d w q e w'
  | .ok (_, _), ⟨h1, ⟨A, c, h2, h3⟩, h4⟩ => ⟨h1, ⟨A, c, h2, h3.weaken fun _ _ h => Or.inr h⟩, h4⟩
  | .error (_, _), h => h
theorem RdPostO.none {B : Nat} {s : ByteArray} {bash : Bool} {d : Nat} {w w' : World} {e : Ending} : ∀ {q : Except (Int × Nat) (T × St)}, RdPostO (fun _ => False) B s bash d w q e w' → RdPost B s bash d w q e w'
  | .ok (_, _), ⟨h1, ⟨A, c, h2, h3⟩, h4⟩ => ⟨h1, ⟨A, c, h2, h3.weaken fun _ _ h => h.elim False.elim id⟩, h4⟩
  | .error (_, _), h => h

theorem Rd.depth {w : World} {B : Nat} {s : ByteArray} {bash : Bool} {st : St} {d : Nat} (h : Rd w B s bash st d) (d' : Nat) : Rd (w.setCell ⟨B, 7, none⟩ (.int .i64 d')) B s bash st d' := by
  simpa [Rd, rdCells] using heap_set (k := 7) h (.int .i64 d')

set_option maxHeartbeats 1000000 in
theorem within_old (old : Nat → Prop) (g : Nat) (fi lb : Array Value) (eg : ∀ args w, (callFunc g args).run Tryz.prog w = .ok (.enter g args) w) (B : Nat) (s : ByteArray) (bash : Bool) (st : St) (d : Nat) (w : World) (h : Rd w B s bash st d) (hd : d ≤ 60) (ho : ∀ g, old g → g < w.heap.size ∧ g ≠ B)
    (q : Except (Int × Nat) (T × St)) (hq : d = 60 → q = .error (42, st.place))
    (hc : d ≠ 60 → ∀ W, Kept B w W → Rd W B s bash st (d + 1) → Calls Tryz.prog g (fi ++ lb) W (RdPostO old B s bash (d + 1) W q)) :
    Calls Tryz.prog 127 #[.pointer (some ⟨B, 0, none⟩), .func (.func g) fi lb] w (RdPostO old B s bash d w q) := by
  have hB := h.lt
  have hA := h.alloc (.cells #[.string ⟨#[]⟩, .string ⟨#[]⟩, .int .i64 0, .slice none 0 0] 24)
  have hK := (Kept.refl B w).alloc (.cells #[.string ⟨#[]⟩, .string ⟨#[]⟩, .int .i64 0, .slice none 0 0] 24)
  have hV := Var4z.new w
  have hsz : (w.alloc (.cells #[.string ⟨#[]⟩, .string ⟨#[]⟩, .int .i64 0, .slice none 0 0] 24)).heap.size = w.heap.size + 1 := World.size_alloc ..
  by_cases h60 : d = 60
  · have cW := wrong_any B 42 s bash st d _ hA
    obtain rfl := hq h60
    have hdd : (d : Int) = 60 := by omega
    clear hc
    go_enter Tryz.func127, Tryz.ntmps127
    generalize hw0 : w.alloc (.cells #[.string ⟨#[]⟩, .string ⟨#[]⟩, .int .i64 0, .slice none 0 0] 24) = w0 at *
    have k7 : w0.cell? ⟨B, 7, none⟩ = some (.int .i64 60) := by rw [hA.c7, hdd]
    clear hdd h60
    go_wp2_with fail
    refine cW.mono ?_
    rintro e w1 ⟨rfl, hb1⟩
    go_wp2_with fail
    exact ⟨rfl, hK.trans (.of_below hb1), rfl⟩
  · have g60 : ((d : Int) == 60) = false := by simp; omega
    have hd1 : (d : Int) + 1 ≤ 60 := by omega
    have hd0 : (0 : Int) ≤ (d : Int) := by omega
    have hc := hc h60
    clear hq h60
    go_enter Tryz.func127, Tryz.ntmps127
    generalize hw0 : w.alloc (.cells #[.string ⟨#[]⟩, .string ⟨#[]⟩, .int .i64 0, .slice none 0 0] 24) = w0 at *
    have k7 := hA.c7
    have f7 := hA.free 7
    go_wp2_with fail
    have hr1 := hA.depth (d + 1)
    rw [show ((d + 1 : Nat) : Int) = (d : Int) + 1 by omega] at hr1
    have hk1 := hK.setCell 7 (.int .i64 ((d : Int) + 1))
    have hs1 : (w0.setCell ⟨B, 7, none⟩ (.int .i64 ((d : Int) + 1))).heap.size = w.heap.size + 1 := by simp [World.setCell, hsz]
    have hv1 : Var4z (w0.setCell ⟨B, 7, none⟩ (.int .i64 ((d : Int) + 1))) w.heap.size := (Below.heap_setCell _ _ _ _ (by show w.heap.size ≠ B; omega)).trans hV
    generalize w0.setCell ⟨B, 7, none⟩ (.int .i64 ((d : Int) + 1)) = w1 at *
    have hcc := hc w1 hk1 hr1
    clear hc hA hK hV k7 f7 hsz hw0 hr1 h
    cases q with
    | error y =>
      obtain ⟨e0, p⟩ := y
      refine hcc.mono ?_
      rintro e w2 ⟨hk2, rfl⟩
      go_wp2_with fail
      exact ⟨rfl, hk1.trans hk2, rfl⟩
    | ok y =>
      obtain ⟨x, st'⟩ := y
      refine hcc.mono ?_
      rintro e w2 ⟨hk2, ⟨A, c, rfl, hT⟩, hr2, hg2⟩
      have hv2 := hv1.kept hk2 (by omega)
      have hk2' := hk1.trans hk2
      have hlt2 := hv2.lt
      obtain ⟨op, hop⟩ : ∃ y, opT x = y := ⟨_, rfl⟩
      obtain ⟨nm, hnm⟩ : ∃ y, nameT x = y := ⟨_, rfl⟩
      obtain ⟨nn, hnn⟩ : ∃ y, numT x = y := ⟨_, rfl⟩
      obtain ⟨ln, hln⟩ : ∃ y, lenT x = y := ⟨_, rfl⟩
      simp only [c0, c1, c2, hop, hnm, hnn, hln]
      have hX : Var4 (w2.alloc (.cells #[.string ⟨op.toArray⟩, .string ⟨nm.toArray⟩, .int .i64 nn, .slice A ln c] 24)) w2.heap.size (.string ⟨op.toArray⟩) (.string ⟨nm.toArray⟩) (.int .i64 nn) (.slice A ln c) := heap_alloc_new _ _
      have hr3 := hr2.alloc (.cells #[.string ⟨op.toArray⟩, .string ⟨nm.toArray⟩, .int .i64 nn, .slice A ln c] 24)
      have hv3 := hv2.alloc (.cells #[.string ⟨op.toArray⟩, .string ⟨nm.toArray⟩, .int .i64 nn, .slice A ln c] 24)
      have hT3 := hT.below ((Below.refl w2.heap.size w2).alloc (Nat.le_refl _) (.cells #[.string ⟨op.toArray⟩, .string ⟨nm.toArray⟩, .int .i64 nn, .slice A ln c] 24))
      have hk3 := hk2'.alloc (.cells #[.string ⟨op.toArray⟩, .string ⟨nm.toArray⟩, .int .i64 nn, .slice A ln c] 24)
      generalize hw3 : w2.alloc (.cells #[.string ⟨op.toArray⟩, .string ⟨nm.toArray⟩, .int .i64 nn, .slice A ln c] 24) = w3 at *
      have hr4 := hr3.depth d
      have hNB : w2.heap.size ≠ B := by omega
      have hX4 : Var4 (w3.setCell ⟨B, 7, none⟩ (.int .i64 (d : Int))) w2.heap.size (.string ⟨op.toArray⟩) (.string ⟨nm.toArray⟩) (.int .i64 nn) (.slice A ln c) := (Below.heap_setCell _ _ _ _ hNB).trans hX
      have hv4 : Var4z (w3.setCell ⟨B, 7, none⟩ (.int .i64 (d : Int))) w.heap.size := (Below.heap_setCell _ _ _ _ (by show w.heap.size ≠ B; omega)).trans hv3
      have hT4 : Tree (w3.setCell ⟨B, 7, none⟩ (.int .i64 (d : Int))) (fun g => old g ∨ w1.heap.size ≤ g) A c x := Tree.frame (fun g _ hp => ⟨hp, Below.heap_setCell _ _ _ _ (by show g ≠ B; rcases hp with hp | hp; exact (ho g hp).2; omega)⟩) x hT3
      have hk4 := hk3.setCell 7 (.int .i64 (d : Int))
      have k7 : w3.cell? ⟨B, 7, none⟩ = some (.int .i64 ((d : Int) + 1)) := hr3.c7
      have f7 := hr3.free 7
      generalize hw4 : w3.setCell ⟨B, 7, none⟩ (.int .i64 (d : Int)) = w4 at *
      have x0 := hX4.a0; have x1 := hX4.a1; have x2 := hX4.a2; have x3 := hX4.a3
      have v0 := hv4.a0; have v1 := hv4.a1; have v2 := hv4.a2; have v3 := hv4.a3
      have f0 := hv4.free 0; have f1 := hv4.free 1; have f2 := hv4.free 2; have f3 := hv4.free 3
      clear hX hr3 hv3 hT3 hk3 hX4 hT hr2 hv2 hk2 hk2' hcc hv1 hk1
      go_wp2_with fail
      refine ret_sum rfl rfl (hv4.set _ _ _ _) rfl ⟨hk4.set4 (Nat.le_refl _) _ _ _ _, ⟨A, c, by simp only [c0, c1, c2, hop, hnm, hnn, hln], ?_⟩, hr4.set4 (by omega) _ _ _ _, hg2⟩
      exact (hT4.set4 (fun g hg e => by rcases hg with hg | hg; have := (ho g hg).1; omega; omega) _ _ _ _).weaken (fun g _ hg => hg.elim Or.inl (fun hg => Or.inr (by omega)))

theorem within_any (g : Nat) (fi lb : Array Value) (eg : ∀ args w, (callFunc g args).run Tryz.prog w = .ok (.enter g args) w) (B : Nat) (s : ByteArray) (bash : Bool) (st : St) (d : Nat) (w : World) (h : Rd w B s bash st d) (hd : d ≤ 60)
    (q : Except (Int × Nat) (T × St)) (hq : d = 60 → q = .error (42, st.place))
    (hc : d ≠ 60 → ∀ W, Kept B w W → Rd W B s bash st (d + 1) → Calls Tryz.prog g (fi ++ lb) W (RdPost B s bash (d + 1) W q)) :
    Calls Tryz.prog 127 #[.pointer (some ⟨B, 0, none⟩), .func (.func g) fi lb] w (RdPost B s bash d w q) :=
  (within_old (fun _ => False) g fi lb eg B s bash st d w h hd (fun _ hh => hh.elim) q hq (fun hne W hk hr => (hc hne W hk hr).mono fun _ _ => RdPost.old)).mono fun _ _ => RdPostO.none
end Go.Proofs.YthgmilllinbcjaaGreatDoor
namespace Go.Proofs.YthgmilllinbcjaaGreatDoor
open Go.RowKit
open Go.Lib (hid)

/-- A function that reads: what it promises, where the grammar's run with that fuel ends. -/
def ReadsAt (s : ByteArray) (bash : Bool) (n : Nat) (k : K) (f : FuncId) (more : List Value) : Prop :=
  ∀ (B d : Nat) (st : St) (w : World) (q : Except (Int × Nat) (T × St)), d ≤ 60 → Rd w B s bash st d → Good s.size st → run (nxL bash s.data.toList) n k d st = some q →
    Calls Tryz.prog f (.pointer (some ⟨B, 0, none⟩) :: more).toArray w (RdPost B s bash d w q)
/-- What choice's closure promises: it reads behind ?; the boxes of the reader's address and of what stands ahead of ? are at hand. -/
def TailsAt (s : ByteArray) (bash : Bool) (n : Nat) : Prop :=
  ∀ (x : T) (B d : Nat) (st : St) (w : World) (q : Except (Int × Nat) (T × St)) (old : Nat → Prop) (Bx N1 : Nat) (A : Option Addr) (c : Nat), d ≤ 60 → Rd w B s bash st d → Good s.size st → run (nxL bash s.data.toList) n (.tail x) d st = some q →
    w.heap[Bx]? = some (.cells #[.pointer (some ⟨B, 0, none⟩)] 121 (0, 0)) → Bx ≠ B → N1 ≠ B → Var4 w N1 (c0 x) (c1 x) (c2 x) (.slice A (lenT x) c) → Tree w old A c x → (∀ g, old g → g < w.heap.size ∧ g ≠ B) →
    Calls Tryz.prog 135 #[.pointer (some ⟨Bx, 0, none⟩), .pointer (some ⟨N1, 0, none⟩)] w (RdPostO old B s bash d w q)
structure IH (s : ByteArray) (bash : Bool) (n : Nat) : Prop where
  chain : ∀ l, lev0 l → ReadsAt s bash n (.chain l) 82 [.int .i64 l]
  above : ∀ l, lev0 l → ReadsAt s bash n (.above l) 103 [.int .i64 l]
  asg : ReadsAt s bash n .asg 113 []
  cho : ReadsAt s bash n .cho 126 []
  pow : ReadsAt s bash n .pow 114 []
  opd : ReadsAt s bash n .opd 128 []
  tail : TailsAt s bash n

theorem RdPost.store {B : Nat} {s : ByteArray} {bash : Bool} {d : Nat} {w w0 w1 : World} {A : Option Addr} {c : Nat} {x : T} {st' : St} (hK : Kept B w w0) (hN : w.heap.size < w0.heap.size) (hk : Kept B w0 w1)
    (hT : Tree w1 (fun g => w0.heap.size ≤ g) A c x) (hr : Rd w1 B s bash st' d) (hg : Good s.size st') (hB : B < w.heap.size) :
    RdPost B s bash d w (.ok (x, st')) (.returned (.agg #[c0 x, c1 x, c2 x, .slice A (lenT x) c])) ((((w1.setCell ⟨w.heap.size, 0, none⟩ (c0 x)).setCell ⟨w.heap.size, 1, none⟩ (c1 x)).setCell ⟨w.heap.size, 2, none⟩ (c2 x)).setCell ⟨w.heap.size, 3, none⟩ (.slice A (lenT x) c)) :=
  ⟨(hK.trans hk).set4 (Nat.le_refl _) _ _ _ _, ⟨A, c, rfl, (hT.set4 (fun g hg e => by omega) _ _ _ _).weaken (fun g _ hg => by omega)⟩, hr.set4 (by omega) _ _ _ _, hg⟩

set_option maxHeartbeats 1000000 in
theorem above_step (s : ByteArray) (bash : Bool) (n : Nat) (ih : IH s bash n) (l : Nat) (hl : lev0 l) : ReadsAt s bash (n + 1) (.above l) 103 [.int .i64 l] := by
  intro B d st w q hd h hg hq
  have hB := h.lt
  have hA := h.alloc (.cells #[.string ⟨#[]⟩, .string ⟨#[]⟩, .int .i64 0, .slice none 0 0] 24)
  have hK := (Kept.refl B w).alloc (.cells #[.string ⟨#[]⟩, .string ⟨#[]⟩, .int .i64 0, .slice none 0 0] 24)
  have hV := Var4z.new w
  have hsz : w.heap.size < (w.alloc (.cells #[.string ⟨#[]⟩, .string ⟨#[]⟩, .int .i64 0, .slice none 0 0] 24)).heap.size := hV.lt
  have hNB : w.heap.size ≠ B := by omega
  rw [run] at hq
  have hl14 : (l : Int) ≤ 13 := by unfold lev0 at hl; omega
  have hl0 : (0 : Int) ≤ (l : Int) := by omega
  by_cases h1 : l = 1
  · rw [if_pos h1] at hq
    have cC := ih.asg B d st _ q hd hA hg hq
    have g1 : ((l : Int) == 1) = true := by simp; omega
    clear hq hl h1 hl14 hl0
    go_enter Tryz.func103, Tryz.ntmps103
    generalize hw0 : w.alloc (.cells #[.string ⟨#[]⟩, .string ⟨#[]⟩, .int .i64 0, .slice none 0 0] 24) = w0 at *
    cases q with
    | error y =>
      obtain ⟨e0, p⟩ := y
      go_wp2_with fail
      refine cC.mono ?_
      rintro e w1 ⟨hk1, rfl⟩
      go_wp2_with fail
      exact ⟨rfl, hK.trans hk1, rfl⟩
    | ok y =>
      obtain ⟨x, st'⟩ := y
      go_wp2_with fail
      refine cC.mono ?_
      rintro e w1 ⟨hk1, ⟨A, c, rfl, hT⟩, hr1, hg1⟩
      have hv1 := hV.kept hk1 hNB
      have v0 := hv1.a0; have v1 := hv1.a1; have v2 := hv1.a2; have v3 := hv1.a3; have f0 := hv1.free 0; have f1 := hv1.free 1; have f2 := hv1.free 2; have f3 := hv1.free 3
      clear hw0 cC hA hV h
      go_wp2_with fail
      exact ret_sum rfl rfl (hv1.set _ _ _ _) rfl (RdPost.store hK hsz hk1 hT hr1 hg1 hB)
  · rw [if_neg h1] at hq
    have g1 : ((l : Int) == 1) = false := by simp; omega
    by_cases h13 : l = 13
    · rw [if_pos h13] at hq
      have cC := ih.pow B d st _ q hd hA hg hq
      have g2 : ((l : Int) == 13) = true := by simp; omega
      clear hq hl h1 h13 hl14 hl0
      go_enter Tryz.func103, Tryz.ntmps103
      generalize hw0 : w.alloc (.cells #[.string ⟨#[]⟩, .string ⟨#[]⟩, .int .i64 0, .slice none 0 0] 24) = w0 at *
      cases q with
      | error y =>
        obtain ⟨e0, p⟩ := y
        go_wp2_with fail
        refine cC.mono ?_
        rintro e w1 ⟨hk1, rfl⟩
        go_wp2_with fail
        exact ⟨rfl, hK.trans hk1, rfl⟩
      | ok y =>
        obtain ⟨x, st'⟩ := y
        go_wp2_with fail
        refine cC.mono ?_
        rintro e w1 ⟨hk1, ⟨A, c, rfl, hT⟩, hr1, hg1⟩
        have hv1 := hV.kept hk1 hNB
        have v0 := hv1.a0; have v1 := hv1.a1; have v2 := hv1.a2; have v3 := hv1.a3; have f0 := hv1.free 0; have f1 := hv1.free 1; have f2 := hv1.free 2; have f3 := hv1.free 3
        clear hw0 cC hA hV h
        go_wp2_with fail
        exact ret_sum rfl rfl (hv1.set _ _ _ _) rfl (RdPost.store hK hsz hk1 hT hr1 hg1 hB)
    · rw [if_neg h13] at hq
      have cC := ih.chain (l + 1) (by unfold lev0 at hl ⊢; omega) B d st _ q hd hA hg hq
      rw [show ((l + 1 : Nat) : Int) = (l : Int) + 1 by omega] at cC
      have g2 : ((l : Int) == 13) = false := by simp; omega
      clear hq hl h1 h13
      go_enter Tryz.func103, Tryz.ntmps103
      generalize hw0 : w.alloc (.cells #[.string ⟨#[]⟩, .string ⟨#[]⟩, .int .i64 0, .slice none 0 0] 24) = w0 at *
      cases q with
      | error y =>
        obtain ⟨e0, p⟩ := y
        go_wp2_with fail
        refine cC.mono ?_
        rintro e w1 ⟨hk1, rfl⟩
        go_wp2_with fail
        exact ⟨rfl, hK.trans hk1, rfl⟩
      | ok y =>
        obtain ⟨x, st'⟩ := y
        go_wp2_with fail
        refine cC.mono ?_
        rintro e w1 ⟨hk1, ⟨A, c, rfl, hT⟩, hr1, hg1⟩
        have hv1 := hV.kept hk1 hNB
        have v0 := hv1.a0; have v1 := hv1.a1; have v2 := hv1.a2; have v3 := hv1.a3; have f0 := hv1.free 0; have f1 := hv1.free 1; have f2 := hv1.free 2; have f3 := hv1.free 3
        clear hw0 cC hA hV h
        go_wp2_with fail
        exact ret_sum rfl rfl (hv1.set _ _ _ _) rfl (RdPost.store hK hsz hk1 hT hr1 hg1 hB)
end Go.Proofs.YthgmilllinbcjaaGreatDoor
