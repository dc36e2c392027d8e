/- The program's planner at a mark: percent. Conditions: sizes. -/
import Derived.Test.YtckmgcdiclkoeaaDoorPpP
import Derived.Deep.AppendLies
import Derived.Deep.RegionLaw
import Derived.Test.YtckmgcdiclkoeaaDoorDrawn
namespace Go.Proofs.YtckmgcdiclkoeaaDoor
open Go.RowKit
open Go.Lib (hid)

theorem info_cv : (Tryd.prog.info? 62).map (fun i => (i.zero, i.size, i.bytes)) = some (some (.agg #[.int .i64 0, .bool false, .bool false, .string .empty, .int .u8 0]), 5, 40) := by kernel_rfl
/-- What percent leaves. -/
def PcPost (B b : Nat) (f : List UInt8) (k : Nat) (t acc : List UInt8) (cvs : List Cv) (w' : World) : Prop :=
  if (specL t).letter = 0 then ∃ k', k' ≤ f.length ∧ PlAt B b f k' acc cvs true w'
  else if (specL t).letter = 37 then PlAt B b f (k + (specL t).size - 1) (acc ++ [37]) cvs false w'
  else PlAt B b f (k + (specL t).size - 1) [] (cvs ++ [⟨specL t, acc⟩]) false w'

theorem in_dxo : ∀ c : UInt8, decide (0 ≤ Lib.indexByte [100, 120, 111] c) = numB c := Ans.all_u8 (by decide +kernel)
theorem cells3 {b c d : Addr} {y z u : Value} {w : World} (h2 : w.cell? b = some y) (h3 : w.cell? c = some z) (h4 : w.cell? d = some u) : Cells [(b, y), (c, z), (d, u)] w := fun q hq => by
  rcases List.mem_cons.1 hq with rfl | hq
  · exact h2
  rcases List.mem_cons.1 hq with rfl | hq
  · exact h3
  rcases List.mem_cons.1 hq with rfl | hq
  · exact h4
  · cases hq
theorem cells_set {b N o : Nat} {x y z : Value} {w : World} (h : Cells [(⟨N, 0, none⟩, x), (⟨N, 1, none⟩, y), (⟨N, 2, none⟩, z)] w) (hne : N ≠ b) (v : Value) : Cells [(⟨N, 0, none⟩, x), (⟨N, 1, none⟩, y), (⟨N, 2, none⟩, z)] (w.setCell ⟨b, o, none⟩ v) := fun q hq =>
  (World.cell?_setCell_other w ⟨b, o, none⟩ q.1 v fun e => hne (by
    have : q.1.block = N := by
      rcases List.mem_cons.1 hq with rfl | hq
      · rfl
      rcases List.mem_cons.1 hq with rfl | hq
      · rfl
      rcases List.mem_cons.1 hq with rfl | hq
      · rfl
      · cases hq
    rw [← this, ← e])).trans (h q hq)
theorem cells_grown {N : Nat} {x y z : Value} {w w' : World} {row : Option Nat} (h : Cells [(⟨N, 0, none⟩, x), (⟨N, 1, none⟩, y), (⟨N, 2, none⟩, z)] w) (hg : w.grownBy w' row) (hne : some N ≠ row) : Cells [(⟨N, 0, none⟩, x), (⟨N, 1, none⟩, y), (⟨N, 2, none⟩, z)] w' := fun q hq =>
  hg.cell (h q hq) (by
    have : q.1.block = N := by
      rcases List.mem_cons.1 hq with rfl | hq
      · rfl
      rcases List.mem_cons.1 hq with rfl | hq
      · rfl
      rcases List.mem_cons.1 hq with rfl | hq
      · rfl
      · cases hq
    rw [this]
    exact hne)
theorem ne_fd_cv : 60 ≠ 62 := by decide
theorem ne_fd_u8 : 60 ≠ 5 := by decide
theorem ne_fd_pl : 60 ≠ 56 := by decide
/-- Behind an append to the conversions, a store and a reset. -/
theorem PlAt.added {B b k : Nat} {f : List UInt8} {cvs : List Cv} {cn : Cv} {p v cv cv' : Value} {w3 w4 : World} (hb3 : w3.heap[b]? = some (.cells (plC f k p v cv false) 56 (0, 0)))
    (hown : w3.ownsRow B 62 5 cv' (cvs ++ [cn]).length (cvsV (cvs ++ [cn]))) (hBw : B ≤ w3.heap.size)
    (hR : Bld 56 B b 2 ((((plC f k p v cv false).setIfInBounds 4 cv').setIfInBounds 2 (.pointer none)).setIfInBounds (2 + 1) (.slice none 0 0)) [] w4) (ho : Bears B b (w3.setCell ⟨b, 4, none⟩ cv') w4) :
    PlAt B b f k [] (cvs ++ [cn]) false w4 := by
  have hne := ownBlock_neE hown hb3 ne_pl_cv
  have h1 : (w3.setCell ⟨b, 4, none⟩ cv').ownsRow B 62 5 cv' (cvs ++ [cn]).length (cvsV (cvs ++ [cn])) :=
    hown.kept (row := some b) ⟨rfl, rfl, rfl, by simp, fun g _ hg => Below.heap_setCell _ _ _ _ (fun e => hg (by rw [e]))⟩ (.inr hne)
  refine ⟨.pointer none, .slice none 0 0, cv', ?_, ho.row h1 ne_cv_u8 hne, Nat.le_trans hBw (by have := ho.size; simpa using this)⟩
  have e : ((((plC f k p v cv false).setIfInBounds 4 cv').setIfInBounds 2 (.pointer none)).setIfInBounds (2 + 1) (.slice none 0 0)) = plC f k (.pointer none) (.slice none 0 0) cv' false := by simp [plC]
  rwa [e] at hR

set_option maxRecDepth 100000 in
set_option maxHeartbeats 2000000 in
theorem percent_any (B b k : Nat) (f t acc : List UInt8) (cvs : List Cv) (w : World) (h : PlAt B b f k acc cvs false w) (hd : f.drop k = t) (hk : k ≤ f.length) (hs : f.length ≤ 140737488351232) (ha : acc.length ≤ 140737488351232) (hc : cvs.length ≤ 1099511627776) :
    Calls Tryd.prog 22 #[.pointer (some ⟨b, 0, none⟩)] w fun e w' => e = .returned (.tuple #[]) ∧ PcPost B b f k t acc cvs w' ∧ Below B w w' := by
  have c1 := h.run [37] 1 hk hs
  rw [hd] at c1
  by_cases h37 : ∃ r, t = 37 :: r
  · obtain ⟨r, rfl⟩ := h37
    have hr : runL [37] 1 (37 :: r) = [37] := by
      rcases run_one [37] (37 :: r) with ⟨-, h2⟩ | ⟨c, r', h1, -, h3⟩
      · exact absurd (h2 37 r rfl) (by decide)
      · rw [h3, (List.cons.inj h1).1]
    have hsp : specL (37 :: r) = ⟨37, false, false, 0, 2⟩ := rfl
    rw [hr] at c1
    have HP : Hid (∀ w', PlAt B b f (k + 1) (acc ++ [37]) cvs false w' → PcPost B b f k (37 :: r) acc cvs w') := hid fun w' h' => by
      unfold PcPost
      rw [hsp, if_neg (by decide), if_pos rfl]
      exact h'
    clear hd hr hsp h
    go_enter Tryd.func22, Tryd.ntmps22
    go_wp2_with fail
    refine c1.mono ?_
    rintro e w1 ⟨rfl, h1, hb1⟩
    have cB := h1.byte 37 ha
    have HB := hid hb1
    clear h1 hb1 c1
    go_wp2_with fail
    refine cB.mono ?_
    rintro e w2 ⟨rfl, h2, hb2⟩
    have HF := hid (And.intro h2 (HB.out.trans hb2))
    clear h2 hb2 cB HB
    go_wp2_with fail
    refine bodyPost_ret (results_none rfl _ _ _) rfl ?_
    exact ⟨rfl, HP.out _ HF.out.1, HF.out.2⟩
  · have hr : runL [37] 1 t = [] := by
      rcases run_one [37] t with ⟨h1, -⟩ | ⟨c, r', h1, h2, -⟩
      · exact h1
      · have : c = 37 := by
          have := Ans.all_u8 (p := fun c => inB [37] c = true → c = 37) (by decide +kernel) c
          exact this h2
        exact absurd ⟨r', by rw [h1, this]⟩ h37
    rw [hr] at c1
    have hsr := spec_read t (fun r e => h37 ⟨r, e⟩) (runL fl2 1 t) (t.drop (runL fl2 1 t).length) (widthL (t.drop (runL fl2 1 t).length)) (runL lt6 1 ((t.drop (runL fl2 1 t).length).drop (widthL (t.drop (runL fl2 1 t).length)).length)) rfl rfl rfl rfl
    have hgl := run_len fl2 1 t
    have hwl := width_len (t.drop (runL fl2 1 t).length)
    have hll := run_len lt6 1 ((t.drop (runL fl2 1 t).length).drop (widthL (t.drop (runL fl2 1 t).length)).length)
    have hwa := width_all (t.drop (runL fl2 1 t).length)
    have htl : t.length = f.length - k := by rw [← hd, List.length_drop]
    obtain ⟨g, hg⟩ : ∃ g, runL fl2 1 t = g := ⟨_, rfl⟩
    rw [hg] at hsr hgl hwl hll hwa
    obtain ⟨u, hu⟩ : ∃ u, t.drop g.length = u := ⟨_, rfl⟩
    rw [hu] at hsr hwl hll hwa
    obtain ⟨d, hdd⟩ : ∃ d, widthL u = d := ⟨_, rfl⟩
    rw [hdd] at hsr hwl hll hwa
    obtain ⟨lt, hlt⟩ : ∃ lt, runL lt6 1 (u.drop d.length) = lt := ⟨_, rfl⟩
    rw [hlt] at hsr hll
    have hul : u.length = t.length - g.length := by rw [← hu, List.length_drop]
    rw [List.length_drop] at hll
    have e2 : f.drop (k + g.length) = u := by rw [← hu, ← hd, List.drop_drop]
    have e3 : f.drop (k + g.length + d.length) = u.drop d.length := by rw [← e2, List.drop_drop]
    have hpw := parse_width d hwa hwl.1
    have hdn := decN_small d hwa hwl.1
    have cP := fun W => pparse_any d W (by omega)
    rw [hpw] at cP
    obtain ⟨q, hq⟩ : ∃ q, (parseW d).2 = q := ⟨_, rfl⟩
    rw [hq] at cP
    obtain ⟨m, hm⟩ : ∃ m, decN d = m := ⟨_, rfl⟩
    rw [hm] at cP hdn hsr
    have HD := hid hd
    have HG := hid hg
    have HE2 := hid e2
    have HE3 := hid e3
    have HDD := hid (show runL dg10 3 u = d by rw [run_dg, hdd])
    have HLT := hid hlt
    have hsz1 : k + g.length ≤ f.length := by omega
    have hsz2 : k + g.length + d.length ≤ f.length := by omega
    have hsz3 : k + g.length + d.length + lt.length ≤ f.length := by omega
    clear hd hg hu hdd hlt hul e2 e3 hpw hwa hq hm hr hgl hwl hll htl h37 h
    rcases hsr with ⟨rfl, hl0⟩ | ⟨c, rfl, hlc, hsp⟩
    · have HP : Hid (∀ w' k', k' ≤ f.length → PlAt B b f k' acc cvs true w' → PcPost B b f k t acc cvs w') := hid fun w' k' hk' h' => by
        unfold PcPost
        rw [if_pos hl0]
        exact ⟨k', hk', h'⟩
      clear hl0
      go_enter Tryd.func22, Tryd.ntmps22
      go_wp2_with fail
      refine c1.mono ?_
      rintro e w1 ⟨rfl, h1, hb1⟩
      have h1' : PlAt B b f k acc cvs false w1 := h1
      have c2 := h1'.run fl2 1 hk hs
      rw [HD.out, HG.out] at c2
      have HB1 := hid hb1
      clear h1 h1' hb1 c1
      go_wp2_with fail
      refine c2.mono ?_
      rintro e w2 ⟨rfl, h2, hb2⟩
      have c3 := h2.run dg10 3 hsz1 hs
      rw [HE2.out, HDD.out] at c3
      have HB2 := hid (HB1.out.trans hb2)
      clear h2 hb2 c2 HB1
      go_wp2_with fail
      refine c3.mono ?_
      rintro e w3 ⟨rfl, h3, hb3⟩
      have HB3 := hid (HB2.out.trans hb3)
      have H3 := hid h3
      clear h3 hb3 c3 HB2
      go_wp2_with fail
      refine (cP _).mono ?_
      rintro e w4 ⟨rfl, hb4⟩
      have h4 := H3.out.below hb4
      have HB4 := hid (HB3.out.trans (hb4.mono (by obtain ⟨_, _, _, _, _, h⟩ := H3.out; exact h)))
      have c5 := h4.run lt6 1 hsz2 hs
      rw [HE3.out, HLT.out] at c5
      clear h4 hb4 H3 HB3 cP
      go_wp2_with fail
      refine c5.mono ?_
      rintro e w5 ⟨rfl, h5, hb5⟩
      have x6 := h5.c6
      have f6 := h5.free 6
      have hf := h5.fault
      have HF := hid (And.intro hf.1 ((HB4.out.trans hb5).trans hf.2))
      clear h5 hb5 hf c5 HB4
      go_wp2_with fail
      refine bodyPost_ret (results_none rfl _ _ _) rfl ?_
      exact ⟨rfl, HP.out _ _ hsz3 HF.out.1, HF.out.2⟩
    · have hln : (specL t).letter ≠ 0 ∧ (specL t).letter ≠ 37 := by
        rw [hsp]
        have := Ans.all_u8 (p := fun c => letterB c = true → c ≠ 0 ∧ c ≠ 37) (by decide +kernel) c
        exact this hlc
      obtain ⟨z, hz⟩ : ∃ z, ((g == [48]) && numB c) = z := ⟨_, rfl⟩
      obtain ⟨l45, h45⟩ : ∃ l45, (g == [45]) = l45 := ⟨_, rfl⟩
      have HCV : Hid (Cv.cells ⟨specL t, acc⟩ = [.int .i64 m, .bool l45, .bool z, encS acc, .int .u8 c.toNat]) := hid (by
        unfold Cv.cells
        rw [hsp, ← hz, ← h45])
      have HP : Hid (∀ w', PlAt B b f (k + g.length + d.length + 1) [] (cvs ++ [⟨specL t, acc⟩]) false w' → PcPost B b f k t acc cvs w') := hid fun w' h' => by
        unfold PcPost
        rw [if_neg hln.1, if_neg hln.2]
        have e : k + (specL t).size - 1 = k + g.length + d.length + 1 := by rw [hsp]; simp only; omega
        rw [e]
        exact h'
      obtain ⟨i0, hi, hz0, hz1, hz2⟩ := info_parts info_cv
      have cK := fun W => Tryd.strings_Contains_one ⟨#[100, 120, 111]⟩ c W
      rw [show (⟨#[100, 120, 111]⟩ : ByteArray).data.toList = [100, 120, 111] from rfl, in_dxo] at cK
      obtain ⟨nb, hnb⟩ : ∃ nb, numB c = nb := ⟨_, rfl⟩
      rw [hnb] at cK hz
      generalize (⟨specL t, acc⟩ : Cv) = CN at *
      have hgc : ∀ h, (⟨#[c]⟩ : ByteArray)[0]'h = c := fun _ => rfl
      have hz' : ((g == [48]) = true ∧ Hid (nb = z)) ∨ ((g == [48]) = false ∧ Hid (false = z)) := by
        cases h48 : (g == [48])
        · exact .inr ⟨rfl, hid (by rw [← hz, h48]; rfl)⟩
        · exact .inl ⟨rfl, hid (by rw [← hz, h48]; rfl)⟩
      clear hln hsp hlc hnb hz
      go_enter Tryd.func22, Tryd.ntmps22
      go_wp2_with fail
      refine c1.mono ?_
      rintro e w1 ⟨rfl, h1, hb1⟩
      have h1' : PlAt B b f k acc cvs false w1 := h1
      have c2 := h1'.run fl2 1 hk hs
      rw [HD.out, HG.out] at c2
      have HB1 := hid hb1
      clear h1 h1' hb1 c1
      go_wp2_with fail
      refine c2.mono ?_
      rintro e w2 ⟨rfl, h2, hb2⟩
      have c3 := h2.run dg10 3 hsz1 hs
      rw [HE2.out, HDD.out] at c3
      have HB2 := hid (HB1.out.trans hb2)
      clear h2 hb2 c2 HB1
      go_wp2_with fail
      refine c3.mono ?_
      rintro e w3 ⟨rfl, h3, hb3⟩
      have HB3 := hid (HB2.out.trans hb3)
      have H3 := hid h3
      clear h3 hb3 c3 HB2
      go_wp2_with fail
      refine (cP _).mono ?_
      rintro e w4 ⟨rfl, hb4⟩
      have h4 := H3.out.below hb4
      have HB4 := hid (HB3.out.trans (hb4.mono (by obtain ⟨_, _, _, _, _, h⟩ := H3.out; exact h)))
      have c5 := h4.run lt6 1 hsz2 hs
      rw [HE3.out, HLT.out] at c5
      clear h4 hb4 H3 HB3 cP
      go_wp2_with fail
      refine c5.mono ?_
      rintro e w5 ⟨rfl, h5, hb5⟩
      have HB5 := hid (HB4.out.trans hb5)
      have H5 := hid h5
      clear h5 hb5 c5 HB4
      rcases hz' with ⟨h48, HZ⟩ | ⟨h48, HZ⟩
      · go_wp2_with fail
        refine (cK _).mono ?_
        rintro e w6 ⟨rfl, rfl⟩
        rw [HZ.out]
        go_wp2_with fail
        obtain ⟨p, v, cv, hbld, hrow, hBw⟩ := H5.out
        have hBb : B ≤ b := hbld.1
        obtain ⟨W6, hW6⟩ : ∃ W6, w6.alloc (.cells #[.int .i64 m, .bool l45, .bool z] 60) = W6 := ⟨_, rfl⟩
        have hb6 : Below w6.heap.size w6 W6 := by rw [← hW6]; exact (Below.refl _ _).alloc (Nat.le_refl _) _
        have hfb : W6.heap[w6.heap.size]? = some (.cells #[.int .i64 m, .bool l45, .bool z] 60 (0, 0)) := by rw [← hW6]; exact heap_alloc_new _ _
        rw [hW6]
        have hbld6 := hbld.below hb6
        have hrow6 := own_below hrow hb6
        have hbk6 := hbld6.2.2.1
        have hs6 := hb6.size
        have HB6 := hid (HB5.out.trans (hb6.mono hBw))
        have hnb : w6.heap.size ≠ b := by have := hbld.lt; omega
        obtain ⟨N, hN⟩ : ∃ N, w6.heap.size = N := ⟨_, rfl⟩
        rw [hN] at hfb hnb hs6 hBw ⊢
        clear hbld hrow hb6 H5 HB5 hW6 hN
        have HBK := hid hbk6
        have HFB := hid hfb
        have x4 : W6.drew.cell? ⟨b, 4, none⟩ = some cv := Lib.cell_of_heap (w := W6.drew) hbk6 4
        have hS : Cells [(⟨N, 0, none⟩, .int .i64 m), (⟨N, 1, none⟩, .bool l45), (⟨N, 2, none⟩, .bool z)] W6.drew := cells3 (Lib.cell_of_heap (w := W6.drew) hfb 0) (Lib.cell_of_heap (w := W6.drew) hfb 1) (Lib.cell_of_heap (w := W6.drew) hfb 2)
        have cS := btold_any 56 B b 2 _ acc W6.drew hbld6.drew
        have HR6 := hid hrow6
        have HNE := hid (ownBlock_neE hrow6 hbk6 ne_pl_cv)
        clear hbk6 hfb hbld6 hrow6
        refine wp_region_held_drew (S := Cells [(⟨N, 0, none⟩, .int .i64 m), (⟨N, 1, none⟩, .bool l45), (⟨N, 2, none⟩, .bool z)]) (by kernel_rfl) hS (fun _ => ?_)
        refine takeH (i := 0) (d := some 50) (v := .pointer (some ⟨b, 0, none⟩)) rfl rfl (by kernel_rfl) (by kernel_rfl) (by kernel_rfl) (fun _ _ _ h => h) (Or.inl ⟨by rfl, fun w' _ => by go_simp⟩) hS ?_
        try simp only [Act.put, List.setIfInBounds_toArray, List.set_cons_zero, List.set_cons_succ]
        refine takeH (i := 1) (d := some 51) (v := .pointer (some ⟨b, 0, none⟩)) rfl rfl (by kernel_rfl) (by kernel_rfl) (by kernel_rfl) (fun _ _ _ h => h) (Or.inl ⟨by rfl, fun w' _ => by go_simp⟩) hS ?_
        try simp only [Act.put, List.setIfInBounds_toArray, List.set_cons_zero, List.set_cons_succ]
        refine takeH (i := 2) (d := some 52) (v := .pointer (some ⟨b, 0, none⟩)) rfl rfl (by kernel_rfl) (by kernel_rfl) (by kernel_rfl) (fun _ _ _ h => h) (Or.inl ⟨by rfl, fun w' _ => by go_simp⟩) hS ?_
        try simp only [Act.put, List.setIfInBounds_toArray, List.set_cons_zero, List.set_cons_succ]
        refine takeH (i := 3) (d := some 53) (v := .pointer (some ⟨b, 4, none⟩)) rfl rfl (by kernel_rfl) (by kernel_rfl) (by kernel_rfl) (fun _ _ _ h => h) (Or.inl ⟨by rfl, fun w' _ => by go_simp⟩) hS ?_
        try simp only [Act.put, List.setIfInBounds_toArray, List.set_cons_zero, List.set_cons_succ]
        refine takeH (i := 4) (d := some 54) (v := .pointer (some ⟨b, 4, none⟩)) rfl rfl (by kernel_rfl) (by kernel_rfl) (by kernel_rfl) (fun _ _ _ h => h) (Or.inl ⟨by rfl, fun w' _ => by go_simp⟩) hS ?_
        try simp only [Act.put, List.setIfInBounds_toArray, List.set_cons_zero, List.set_cons_succ]
        refine takeH (i := 6) (d := some 56) (v := .agg #[.int .i64 m, .bool l45, .bool z]) rfl rfl (by kernel_rfl) (by kernel_rfl) (by kernel_rfl) (fun _ _ _ h => h) (Or.inl ⟨by rfl, fun w' hS' => by have s0 := hS' _ (.head _); have s1 := hS' _ (.tail _ (.head _)); have s2 := hS' _ (.tail _ (.tail _ (.head _))); dsimp only at s0 s1 s2; go_simp⟩) hS ?_
        try simp only [Act.put, List.setIfInBounds_toArray, List.set_cons_zero, List.set_cons_succ]
        refine takeH (i := 7) (d := some 57) (v := .pointer (some ⟨b, 0, none⟩)) rfl rfl (by kernel_rfl) (by kernel_rfl) (by kernel_rfl) (fun _ _ _ h => h) (Or.inl ⟨by rfl, fun w' _ => by go_simp⟩) hS ?_
        try simp only [Act.put, List.setIfInBounds_toArray, List.set_cons_zero, List.set_cons_succ]
        refine takeH (i := 8) (d := some 58) (v := .pointer (some ⟨b, 0, none⟩)) rfl rfl (by kernel_rfl) (by kernel_rfl) (by kernel_rfl) (fun _ _ _ h => h) (Or.inl ⟨by rfl, fun w' _ => by go_simp⟩) hS ?_
        try simp only [Act.put, List.setIfInBounds_toArray, List.set_cons_zero, List.set_cons_succ]
        refine takeH (i := 9) (d := some 59) (v := .pointer (some ⟨b, 2, none⟩)) rfl rfl (by kernel_rfl) (by kernel_rfl) (by kernel_rfl) (fun _ _ _ h => h) (Or.inl ⟨by rfl, fun w' _ => by go_simp⟩) hS ?_
        try simp only [Act.put, List.setIfInBounds_toArray, List.set_cons_zero, List.set_cons_succ]
        refine takeH (i := 11) (d := some 61) (v := encS [c]) rfl rfl (by kernel_rfl) (by kernel_rfl) (by kernel_rfl) (fun _ _ _ h => h) (Or.inl ⟨by rfl, fun w' _ => by go_simp⟩) hS ?_
        try simp only [Act.put, List.setIfInBounds_toArray, List.set_cons_zero, List.set_cons_succ]
        refine takeH (i := 12) (d := some 62) (v := .int .u8 c.toNat) rfl rfl (by kernel_rfl) (by kernel_rfl) (by kernel_rfl) (fun _ _ _ h => h) (Or.inl ⟨by rfl, fun w' _ => by go_simp⟩) hS ?_
        try simp only [Act.put, List.setIfInBounds_toArray, List.set_cons_zero, List.set_cons_succ]
        refine wpAnyH_ready (rs := [5, 10]) (by kernel_rfl) (by simp) (AllReadyH.cons rfl (fun K hK => ?_) (AllReadyH.cons rfl (fun K hK => ?_) AllReadyH.nil))
        · skip
          go_simp
          refine hK.out _ _ hS (fun _ => ?_)
          clear hK K
          try simp only [Act.put, List.setIfInBounds_toArray, List.set_cons_zero, List.set_cons_succ]
          refine wpAnyH_ready (rs := [10]) (by kernel_rfl) (by simp) (AllReadyH.cons rfl (fun K hK => ?_) AllReadyH.nil)
          go_simp
          go_at_call 16
          refine cS.mono ?_
          rintro e w7 ⟨rfl, hbb7, ho7⟩
          have hbk7 : w7.heap[b]? = some (.cells (plC f (k + g.length + d.length + 1) p v cv false) 56 (0, 0)) := hbb7.trans HBK.out
          have hrow7 := ho7.row HR6.out ne_cv_u8 HNE.out
          have hfb7 : w7.heap[N]? = some (.cells #[.int .i64 m, .bool l45, .bool z] 60 (0, 0)) := (ho7.block N (lt_of_block HFB.out) hnb (.inr ⟨_, _, _, HFB.out, ne_fd_u8⟩)).trans HFB.out
          have hS7 : Cells [(⟨N, 0, none⟩, .int .i64 m), (⟨N, 1, none⟩, .bool l45), (⟨N, 2, none⟩, .bool z)] w7 := cells3 (Lib.cell_of_heap hfb7 0) (Lib.cell_of_heap hfb7 1) (Lib.cell_of_heap hfb7 2)
          have x47 : w7.cell? ⟨b, 4, none⟩ = some cv := Lib.cell_of_heap hbk7 4
          have x47a : (w7.alloc (.cells #[.int .i64 m, .bool l45, .bool z, encS acc, .int .u8 c.toNat] 62)).cell? ⟨b, 4, none⟩ = some cv := Lib.cell_of_heap ((Below.heap_alloc w7 _ b (lt_of_block hbk7)).trans hbk7) 4
          have hs7 : W6.heap.size ≤ w7.heap.size := ho7.size
          have HBK7 := hid hbk7
          have HFB7 := hid hfb7
          clear hbk7 hfb7
          go_wp2_with fail
          refine hK.out _ _ hS7 (fun _ => ?_)
          clear hK K
          try simp only [Act.put, List.setIfInBounds_toArray, List.set_cons_zero, List.set_cons_succ]
          refine takeH (i := 13) (d := some 63) (v := .agg #[.int .i64 m, .bool l45, .bool z, encS acc, .int .u8 c.toNat]) rfl rfl (by kernel_rfl) (by kernel_rfl) (by kernel_rfl) (fun _ _ _ h => h) (Or.inl ⟨by rfl, fun w' _ => by go_simp⟩) hS7 ?_
          try simp only [Act.put, List.setIfInBounds_toArray, List.set_cons_zero, List.set_cons_succ]
          refine wpAnyH_ready (rs := [14]) (by kernel_rfl) (by simp) (AllReadyH.cons rfl (fun K hK => ?_) AllReadyH.nil)
          go_simp
          refine hK.out _ _ (hS7.below ((Below.refl _ _).alloc (Nat.le_refl _) _)) (fun _ => ?_)
          clear hK K
          try simp only [Act.put, List.setIfInBounds_toArray, List.set_cons_zero, List.set_cons_succ]
          refine wpAnyH_ready (rs := [15]) (by kernel_rfl) (by simp) (AllReadyH.cons rfl (fun K hK => ?_) AllReadyH.nil)
          refine step_append_lies _ (by rfl) _ _ _ (by rfl) B 62 i0 (.agg #[.int .i64 0, .bool false, .bool false, .string .empty, .int .u8 0]) 5 40 Tryd.underlying37 hi hz0 hz1 hz2 rfl (by omega) cv cvs.length (cvsV cvs) (by rfl) (hrow7.alloc _) ⟨w7.heap.size, 0, none⟩ 1 1 [.int .i64 m, .bool l45, .bool z, encS acc, .int .u8 c.toNat] (by rfl) (by rfl) (World.news_of_block (cs := #[.int .i64 m, .bool l45, .bool z, encS acc, .int .u8 c.toNat]) (t := 62) (fr := (0, 0)) (heap_alloc_new w7 _)) (by simp [Value.oneCell']) (by omega) (by unfold maxLen; omega) (by omega) (by simp; omega) (w7.heap.size + 1) (by simp) ?_
          intro gg cap w8 hown8 hg8 _ _
          have hbk8 : w8.heap[b]? = some (.cells (plC f (k + g.length + d.length + 1) p v cv false) 56 (0, 0)) := (hg8.block b (Nat.lt_of_lt_of_le (lt_of_block HBK7.out) (by simp)) (fun e => ownBlock_neE hrow7 HBK7.out ne_pl_cv e.symm)).trans ((Below.heap_alloc w7 _ b (lt_of_block HBK7.out)).trans HBK7.out)
          have hS8 := cells_grown (hS7.below ((Below.refl _ _).alloc (Nat.le_refl _) _)) hg8 (fun e => ownBlock_neE hrow7 HFB7.out ne_fd_cv e.symm)
          have x48 : w8.cell? ⟨b, 4, none⟩ = some cv := Lib.cell_of_heap hbk8 4
          have f48 : w8.frozen? ⟨b, 4, none⟩ = false := Lib.frozen_of_heap hbk8 4
          have HBK8 := hid hbk8
          clear hbk8
          change K (Act.put _ (some 65) _) _
          refine hK.out _ _ hS8 (fun _ => ?_)
          clear hK K
          try simp only [Act.put, List.setIfInBounds_toArray, List.set_cons_zero, List.set_cons_succ]
          refine takeH (i := 16) (d := some 66) (v := .pointer (some ⟨b, 0, none⟩)) rfl rfl (by kernel_rfl) (by kernel_rfl) (by kernel_rfl) (fun _ _ _ h => h) (Or.inl ⟨by rfl, fun w' _ => by go_simp⟩) hS8 ?_
          try simp only [Act.put, List.setIfInBounds_toArray, List.set_cons_zero, List.set_cons_succ]
          refine takeH (i := 17) (d := some 67) (v := .pointer (some ⟨b, 4, none⟩)) rfl rfl (by kernel_rfl) (by kernel_rfl) (by kernel_rfl) (fun _ _ _ h => h) (Or.inl ⟨by rfl, fun w' _ => by go_simp⟩) hS8 ?_
          try simp only [Act.put, List.setIfInBounds_toArray, List.set_cons_zero, List.set_cons_succ]
          refine takeH (i := 18) (d := some 68) (v := .pointer (some ⟨b, 4, none⟩)) rfl rfl (by kernel_rfl) (by kernel_rfl) (by kernel_rfl) (fun _ _ _ h => h) (Or.inl ⟨by rfl, fun w' _ => by go_simp⟩) hS8 ?_
          try simp only [Act.put, List.setIfInBounds_toArray, List.set_cons_zero, List.set_cons_succ]
          refine wpAnyH_ready (rs := [19]) (by kernel_rfl) (by simp) (AllReadyH.cons rfl (fun K hK => ?_) AllReadyH.nil)
          go_simp
          refine hK.out _ _ (cells_set hS8 hnb _) (fun _ => ?_)
          clear hK K
          try simp only [Act.put, List.setIfInBounds_toArray, List.set_cons_zero, List.set_cons_succ]
          refine wpAnyH_done (by kernel_rfl) ?_ _
          have hown9 : w8.ownsRow B 62 5 (.slice (some ⟨gg, 0, none⟩) (cvs.length + 1) cap) (cvs ++ [CN]).length (cvsV (cvs ++ [CN])) := by
            unfold cvsV at hown8 ⊢
            rw [List.flatMap_append, List.length_append, List.flatMap_cons, List.flatMap_nil, List.append_nil, HCV.out]
            exact hown8
          have hb9 := heap_setCell_same w8 b 4 _ 56 (.slice (some ⟨gg, 0, none⟩) (cvs.length + 1) cap) HBK8.out
          have hB7 : Below B W6 w7 := ((Below.refl B W6).drew).trans (ho7.below hBb (by show B ≤ W6.heap.size; omega))
          have hB8 : Below B W6 (w8.setCell ⟨b, 4, none⟩ (.slice (some ⟨gg, 0, none⟩) (cvs.length + 1) cap)) := ((hB7.alloc (by omega) _).grown hg8 (by simp; omega) (fun j e => (hrow7.lt j e).1)).setCell hBb _
          have cR := breset_any 56 B b 2 _ _ ne_pl_u8 hBb hb9 (by simp [plC])
          have hs8 : B ≤ w8.heap.size := by have := hB8.size; simp at this; omega
          have HF := hid (And.intro hown9 (And.intro HBK8.out (And.intro hs8 (HB6.out.trans hB8))))
          clear hown8 hown9 hg8 hrow7 hb9 hB7 hB8 ho7 hbb7 cS hS hS7 hS8 x47 x47a x48 f48 x4
          go_wp2_with fail
          refine cR.mono ?_
          rintro e w9 ⟨rfl, hR, ho9⟩
          have HG2 := hid (And.intro (PlAt.added HF.out.2.1 HF.out.1 HF.out.2.2.1 hR ho9) (HF.out.2.2.2.trans (ho9.below hBb (by simpa using HF.out.2.2.1))))
          clear hR ho9 cR
          go_wp2_with fail
          go_end0
          exact ⟨rfl, HP.out _ HG2.out.1, HG2.out.2⟩
        · skip
          go_simp
          go_at_call 16
          refine cS.mono ?_
          rintro e w7 ⟨rfl, hbb7, ho7⟩
          have hbk7 : w7.heap[b]? = some (.cells (plC f (k + g.length + d.length + 1) p v cv false) 56 (0, 0)) := hbb7.trans HBK.out
          have hrow7 := ho7.row HR6.out ne_cv_u8 HNE.out
          have hfb7 : w7.heap[N]? = some (.cells #[.int .i64 m, .bool l45, .bool z] 60 (0, 0)) := (ho7.block N (lt_of_block HFB.out) hnb (.inr ⟨_, _, _, HFB.out, ne_fd_u8⟩)).trans HFB.out
          have hS7 : Cells [(⟨N, 0, none⟩, .int .i64 m), (⟨N, 1, none⟩, .bool l45), (⟨N, 2, none⟩, .bool z)] w7 := cells3 (Lib.cell_of_heap hfb7 0) (Lib.cell_of_heap hfb7 1) (Lib.cell_of_heap hfb7 2)
          have x47 : w7.cell? ⟨b, 4, none⟩ = some cv := Lib.cell_of_heap hbk7 4
          have x47a : (w7.alloc (.cells #[.int .i64 m, .bool l45, .bool z, encS acc, .int .u8 c.toNat] 62)).cell? ⟨b, 4, none⟩ = some cv := Lib.cell_of_heap ((Below.heap_alloc w7 _ b (lt_of_block hbk7)).trans hbk7) 4
          have hs7 : W6.heap.size ≤ w7.heap.size := ho7.size
          have HBK7 := hid hbk7
          have HFB7 := hid hfb7
          clear hbk7 hfb7
          go_wp2_with fail
          refine hK.out _ _ hS7 (fun _ => ?_)
          clear hK K
          try simp only [Act.put, List.setIfInBounds_toArray, List.set_cons_zero, List.set_cons_succ]
          refine takeH (i := 13) (d := some 63) (v := .agg #[.int .i64 m, .bool l45, .bool z, encS acc, .int .u8 c.toNat]) rfl rfl (by kernel_rfl) (by kernel_rfl) (by kernel_rfl) (fun _ _ _ h => h) (Or.inl ⟨by rfl, fun w' _ => by go_simp⟩) hS7 ?_
          try simp only [Act.put, List.setIfInBounds_toArray, List.set_cons_zero, List.set_cons_succ]
          refine wpAnyH_ready (rs := [5, 14]) (by kernel_rfl) (by simp) (AllReadyH.cons rfl (fun K hK => ?_) (AllReadyH.cons rfl (fun K hK => ?_) AllReadyH.nil))
          · skip
            go_simp
            refine hK.out _ _ hS7 (fun _ => ?_)
            clear hK K
            try simp only [Act.put, List.setIfInBounds_toArray, List.set_cons_zero, List.set_cons_succ]
            refine wpAnyH_ready (rs := [14]) (by kernel_rfl) (by simp) (AllReadyH.cons rfl (fun K hK => ?_) AllReadyH.nil)
            go_simp
            refine hK.out _ _ (hS7.below ((Below.refl _ _).alloc (Nat.le_refl _) _)) (fun _ => ?_)
            clear hK K
            try simp only [Act.put, List.setIfInBounds_toArray, List.set_cons_zero, List.set_cons_succ]
            refine wpAnyH_ready (rs := [15]) (by kernel_rfl) (by simp) (AllReadyH.cons rfl (fun K hK => ?_) AllReadyH.nil)
            refine step_append_lies _ (by rfl) _ _ _ (by rfl) B 62 i0 (.agg #[.int .i64 0, .bool false, .bool false, .string .empty, .int .u8 0]) 5 40 Tryd.underlying37 hi hz0 hz1 hz2 rfl (by omega) cv cvs.length (cvsV cvs) (by rfl) (hrow7.alloc _) ⟨w7.heap.size, 0, none⟩ 1 1 [.int .i64 m, .bool l45, .bool z, encS acc, .int .u8 c.toNat] (by rfl) (by rfl) (World.news_of_block (cs := #[.int .i64 m, .bool l45, .bool z, encS acc, .int .u8 c.toNat]) (t := 62) (fr := (0, 0)) (heap_alloc_new w7 _)) (by simp [Value.oneCell']) (by omega) (by unfold maxLen; omega) (by omega) (by simp; omega) (w7.heap.size + 1) (by simp) ?_
            intro gg cap w8 hown8 hg8 _ _
            have hbk8 : w8.heap[b]? = some (.cells (plC f (k + g.length + d.length + 1) p v cv false) 56 (0, 0)) := (hg8.block b (Nat.lt_of_lt_of_le (lt_of_block HBK7.out) (by simp)) (fun e => ownBlock_neE hrow7 HBK7.out ne_pl_cv e.symm)).trans ((Below.heap_alloc w7 _ b (lt_of_block HBK7.out)).trans HBK7.out)
            have hS8 := cells_grown (hS7.below ((Below.refl _ _).alloc (Nat.le_refl _) _)) hg8 (fun e => ownBlock_neE hrow7 HFB7.out ne_fd_cv e.symm)
            have x48 : w8.cell? ⟨b, 4, none⟩ = some cv := Lib.cell_of_heap hbk8 4
            have f48 : w8.frozen? ⟨b, 4, none⟩ = false := Lib.frozen_of_heap hbk8 4
            have HBK8 := hid hbk8
            clear hbk8
            change K (Act.put _ (some 65) _) _
            refine hK.out _ _ hS8 (fun _ => ?_)
            clear hK K
            try simp only [Act.put, List.setIfInBounds_toArray, List.set_cons_zero, List.set_cons_succ]
            refine takeH (i := 16) (d := some 66) (v := .pointer (some ⟨b, 0, none⟩)) rfl rfl (by kernel_rfl) (by kernel_rfl) (by kernel_rfl) (fun _ _ _ h => h) (Or.inl ⟨by rfl, fun w' _ => by go_simp⟩) hS8 ?_
            try simp only [Act.put, List.setIfInBounds_toArray, List.set_cons_zero, List.set_cons_succ]
            refine takeH (i := 17) (d := some 67) (v := .pointer (some ⟨b, 4, none⟩)) rfl rfl (by kernel_rfl) (by kernel_rfl) (by kernel_rfl) (fun _ _ _ h => h) (Or.inl ⟨by rfl, fun w' _ => by go_simp⟩) hS8 ?_
            try simp only [Act.put, List.setIfInBounds_toArray, List.set_cons_zero, List.set_cons_succ]
            refine takeH (i := 18) (d := some 68) (v := .pointer (some ⟨b, 4, none⟩)) rfl rfl (by kernel_rfl) (by kernel_rfl) (by kernel_rfl) (fun _ _ _ h => h) (Or.inl ⟨by rfl, fun w' _ => by go_simp⟩) hS8 ?_
            try simp only [Act.put, List.setIfInBounds_toArray, List.set_cons_zero, List.set_cons_succ]
            refine wpAnyH_ready (rs := [19]) (by kernel_rfl) (by simp) (AllReadyH.cons rfl (fun K hK => ?_) AllReadyH.nil)
            go_simp
            refine hK.out _ _ (cells_set hS8 hnb _) (fun _ => ?_)
            clear hK K
            try simp only [Act.put, List.setIfInBounds_toArray, List.set_cons_zero, List.set_cons_succ]
            refine wpAnyH_done (by kernel_rfl) ?_ _
            have hown9 : w8.ownsRow B 62 5 (.slice (some ⟨gg, 0, none⟩) (cvs.length + 1) cap) (cvs ++ [CN]).length (cvsV (cvs ++ [CN])) := by
              unfold cvsV at hown8 ⊢
              rw [List.flatMap_append, List.length_append, List.flatMap_cons, List.flatMap_nil, List.append_nil, HCV.out]
              exact hown8
            have hb9 := heap_setCell_same w8 b 4 _ 56 (.slice (some ⟨gg, 0, none⟩) (cvs.length + 1) cap) HBK8.out
            have hB7 : Below B W6 w7 := ((Below.refl B W6).drew).trans (ho7.below hBb (by show B ≤ W6.heap.size; omega))
            have hB8 : Below B W6 (w8.setCell ⟨b, 4, none⟩ (.slice (some ⟨gg, 0, none⟩) (cvs.length + 1) cap)) := ((hB7.alloc (by omega) _).grown hg8 (by simp; omega) (fun j e => (hrow7.lt j e).1)).setCell hBb _
            have cR := breset_any 56 B b 2 _ _ ne_pl_u8 hBb hb9 (by simp [plC])
            have hs8 : B ≤ w8.heap.size := by have := hB8.size; simp at this; omega
            have HF := hid (And.intro hown9 (And.intro HBK8.out (And.intro hs8 (HB6.out.trans hB8))))
            clear hown8 hown9 hg8 hrow7 hb9 hB7 hB8 ho7 hbb7 cS hS hS7 hS8 x47 x47a x48 f48 x4
            go_wp2_with fail
            refine cR.mono ?_
            rintro e w9 ⟨rfl, hR, ho9⟩
            have HG2 := hid (And.intro (PlAt.added HF.out.2.1 HF.out.1 HF.out.2.2.1 hR ho9) (HF.out.2.2.2.trans (ho9.below hBb (by simpa using HF.out.2.2.1))))
            clear hR ho9 cR
            go_wp2_with fail
            go_end0
            exact ⟨rfl, HP.out _ HG2.out.1, HG2.out.2⟩
          · skip
            go_simp
            refine hK.out _ _ (hS7.below ((Below.refl _ _).alloc (Nat.le_refl _) _)) (fun _ => ?_)
            clear hK K
            try simp only [Act.put, List.setIfInBounds_toArray, List.set_cons_zero, List.set_cons_succ]
            refine wpAnyH_ready (rs := [5]) (by kernel_rfl) (by simp) (AllReadyH.cons rfl (fun K hK => ?_) AllReadyH.nil)
            go_simp
            refine hK.out _ _ (hS7.below ((Below.refl _ _).alloc (Nat.le_refl _) _)) (fun _ => ?_)
            clear hK K
            try simp only [Act.put, List.setIfInBounds_toArray, List.set_cons_zero, List.set_cons_succ]
            refine wpAnyH_ready (rs := [15]) (by kernel_rfl) (by simp) (AllReadyH.cons rfl (fun K hK => ?_) AllReadyH.nil)
            refine step_append_lies _ (by rfl) _ _ _ (by rfl) B 62 i0 (.agg #[.int .i64 0, .bool false, .bool false, .string .empty, .int .u8 0]) 5 40 Tryd.underlying37 hi hz0 hz1 hz2 rfl (by omega) cv cvs.length (cvsV cvs) (by rfl) (hrow7.alloc _) ⟨w7.heap.size, 0, none⟩ 1 1 [.int .i64 m, .bool l45, .bool z, encS acc, .int .u8 c.toNat] (by rfl) (by rfl) (World.news_of_block (cs := #[.int .i64 m, .bool l45, .bool z, encS acc, .int .u8 c.toNat]) (t := 62) (fr := (0, 0)) (heap_alloc_new w7 _)) (by simp [Value.oneCell']) (by omega) (by unfold maxLen; omega) (by omega) (by simp; omega) (w7.heap.size + 1) (by simp) ?_
            intro gg cap w8 hown8 hg8 _ _
            have hbk8 : w8.heap[b]? = some (.cells (plC f (k + g.length + d.length + 1) p v cv false) 56 (0, 0)) := (hg8.block b (Nat.lt_of_lt_of_le (lt_of_block HBK7.out) (by simp)) (fun e => ownBlock_neE hrow7 HBK7.out ne_pl_cv e.symm)).trans ((Below.heap_alloc w7 _ b (lt_of_block HBK7.out)).trans HBK7.out)
            have hS8 := cells_grown (hS7.below ((Below.refl _ _).alloc (Nat.le_refl _) _)) hg8 (fun e => ownBlock_neE hrow7 HFB7.out ne_fd_cv e.symm)
            have x48 : w8.cell? ⟨b, 4, none⟩ = some cv := Lib.cell_of_heap hbk8 4
            have f48 : w8.frozen? ⟨b, 4, none⟩ = false := Lib.frozen_of_heap hbk8 4
            have HBK8 := hid hbk8
            clear hbk8
            change K (Act.put _ (some 65) _) _
            refine hK.out _ _ hS8 (fun _ => ?_)
            clear hK K
            try simp only [Act.put, List.setIfInBounds_toArray, List.set_cons_zero, List.set_cons_succ]
            refine takeH (i := 16) (d := some 66) (v := .pointer (some ⟨b, 0, none⟩)) rfl rfl (by kernel_rfl) (by kernel_rfl) (by kernel_rfl) (fun _ _ _ h => h) (Or.inl ⟨by rfl, fun w' _ => by go_simp⟩) hS8 ?_
            try simp only [Act.put, List.setIfInBounds_toArray, List.set_cons_zero, List.set_cons_succ]
            refine takeH (i := 17) (d := some 67) (v := .pointer (some ⟨b, 4, none⟩)) rfl rfl (by kernel_rfl) (by kernel_rfl) (by kernel_rfl) (fun _ _ _ h => h) (Or.inl ⟨by rfl, fun w' _ => by go_simp⟩) hS8 ?_
            try simp only [Act.put, List.setIfInBounds_toArray, List.set_cons_zero, List.set_cons_succ]
            refine takeH (i := 18) (d := some 68) (v := .pointer (some ⟨b, 4, none⟩)) rfl rfl (by kernel_rfl) (by kernel_rfl) (by kernel_rfl) (fun _ _ _ h => h) (Or.inl ⟨by rfl, fun w' _ => by go_simp⟩) hS8 ?_
            try simp only [Act.put, List.setIfInBounds_toArray, List.set_cons_zero, List.set_cons_succ]
            refine wpAnyH_ready (rs := [19]) (by kernel_rfl) (by simp) (AllReadyH.cons rfl (fun K hK => ?_) AllReadyH.nil)
            go_simp
            refine hK.out _ _ (cells_set hS8 hnb _) (fun _ => ?_)
            clear hK K
            try simp only [Act.put, List.setIfInBounds_toArray, List.set_cons_zero, List.set_cons_succ]
            refine wpAnyH_done (by kernel_rfl) ?_ _
            have hown9 : w8.ownsRow B 62 5 (.slice (some ⟨gg, 0, none⟩) (cvs.length + 1) cap) (cvs ++ [CN]).length (cvsV (cvs ++ [CN])) := by
              unfold cvsV at hown8 ⊢
              rw [List.flatMap_append, List.length_append, List.flatMap_cons, List.flatMap_nil, List.append_nil, HCV.out]
              exact hown8
            have hb9 := heap_setCell_same w8 b 4 _ 56 (.slice (some ⟨gg, 0, none⟩) (cvs.length + 1) cap) HBK8.out
            have hB7 : Below B W6 w7 := ((Below.refl B W6).drew).trans (ho7.below hBb (by show B ≤ W6.heap.size; omega))
            have hB8 : Below B W6 (w8.setCell ⟨b, 4, none⟩ (.slice (some ⟨gg, 0, none⟩) (cvs.length + 1) cap)) := ((hB7.alloc (by omega) _).grown hg8 (by simp; omega) (fun j e => (hrow7.lt j e).1)).setCell hBb _
            have cR := breset_any 56 B b 2 _ _ ne_pl_u8 hBb hb9 (by simp [plC])
            have hs8 : B ≤ w8.heap.size := by have := hB8.size; simp at this; omega
            have HF := hid (And.intro hown9 (And.intro HBK8.out (And.intro hs8 (HB6.out.trans hB8))))
            clear hown8 hown9 hg8 hrow7 hb9 hB7 hB8 ho7 hbb7 cS hS hS7 hS8 x47 x47a x48 f48 x4
            go_wp2_with fail
            refine cR.mono ?_
            rintro e w9 ⟨rfl, hR, ho9⟩
            have HG2 := hid (And.intro (PlAt.added HF.out.2.1 HF.out.1 HF.out.2.2.1 hR ho9) (HF.out.2.2.2.trans (ho9.below hBb (by simpa using HF.out.2.2.1))))
            clear hR ho9 cR
            go_wp2_with fail
            go_end0
            exact ⟨rfl, HP.out _ HG2.out.1, HG2.out.2⟩
      · have hzz : z = false := HZ.out.symm
        subst hzz
        obtain ⟨w6, rfl⟩ : ∃ w6, w6 = w5 := ⟨_, rfl⟩
        clear HZ
        go_wp2_with fail
        obtain ⟨p, v, cv, hbld, hrow, hBw⟩ := H5.out
        have hBb : B ≤ b := hbld.1
        obtain ⟨W6, hW6⟩ : ∃ W6, w6.alloc (.cells #[.int .i64 m, .bool l45, .bool false] 60) = W6 := ⟨_, rfl⟩
        have hb6 : Below w6.heap.size w6 W6 := by rw [← hW6]; exact (Below.refl _ _).alloc (Nat.le_refl _) _
        have hfb : W6.heap[w6.heap.size]? = some (.cells #[.int .i64 m, .bool l45, .bool false] 60 (0, 0)) := by rw [← hW6]; exact heap_alloc_new _ _
        rw [hW6]
        have hbld6 := hbld.below hb6
        have hrow6 := own_below hrow hb6
        have hbk6 := hbld6.2.2.1
        have hs6 := hb6.size
        have HB6 := hid (HB5.out.trans (hb6.mono hBw))
        have hnb : w6.heap.size ≠ b := by have := hbld.lt; omega
        obtain ⟨N, hN⟩ : ∃ N, w6.heap.size = N := ⟨_, rfl⟩
        rw [hN] at hfb hnb hs6 hBw ⊢
        clear hbld hrow hb6 H5 HB5 hW6 hN
        have HBK := hid hbk6
        have HFB := hid hfb
        have x4 : W6.drew.cell? ⟨b, 4, none⟩ = some cv := Lib.cell_of_heap (w := W6.drew) hbk6 4
        have hS : Cells [(⟨N, 0, none⟩, .int .i64 m), (⟨N, 1, none⟩, .bool l45), (⟨N, 2, none⟩, .bool false)] W6.drew := cells3 (Lib.cell_of_heap (w := W6.drew) hfb 0) (Lib.cell_of_heap (w := W6.drew) hfb 1) (Lib.cell_of_heap (w := W6.drew) hfb 2)
        have cS := btold_any 56 B b 2 _ acc W6.drew hbld6.drew
        have HR6 := hid hrow6
        have HNE := hid (ownBlock_neE hrow6 hbk6 ne_pl_cv)
        clear hbk6 hfb hbld6 hrow6
        refine wp_region_held_drew (S := Cells [(⟨N, 0, none⟩, .int .i64 m), (⟨N, 1, none⟩, .bool l45), (⟨N, 2, none⟩, .bool false)]) (by kernel_rfl) hS (fun _ => ?_)
        refine takeH (i := 0) (d := some 50) (v := .pointer (some ⟨b, 0, none⟩)) rfl rfl (by kernel_rfl) (by kernel_rfl) (by kernel_rfl) (fun _ _ _ h => h) (Or.inl ⟨by rfl, fun w' _ => by go_simp⟩) hS ?_
        try simp only [Act.put, List.setIfInBounds_toArray, List.set_cons_zero, List.set_cons_succ]
        refine takeH (i := 1) (d := some 51) (v := .pointer (some ⟨b, 0, none⟩)) rfl rfl (by kernel_rfl) (by kernel_rfl) (by kernel_rfl) (fun _ _ _ h => h) (Or.inl ⟨by rfl, fun w' _ => by go_simp⟩) hS ?_
        try simp only [Act.put, List.setIfInBounds_toArray, List.set_cons_zero, List.set_cons_succ]
        refine takeH (i := 2) (d := some 52) (v := .pointer (some ⟨b, 0, none⟩)) rfl rfl (by kernel_rfl) (by kernel_rfl) (by kernel_rfl) (fun _ _ _ h => h) (Or.inl ⟨by rfl, fun w' _ => by go_simp⟩) hS ?_
        try simp only [Act.put, List.setIfInBounds_toArray, List.set_cons_zero, List.set_cons_succ]
        refine takeH (i := 3) (d := some 53) (v := .pointer (some ⟨b, 4, none⟩)) rfl rfl (by kernel_rfl) (by kernel_rfl) (by kernel_rfl) (fun _ _ _ h => h) (Or.inl ⟨by rfl, fun w' _ => by go_simp⟩) hS ?_
        try simp only [Act.put, List.setIfInBounds_toArray, List.set_cons_zero, List.set_cons_succ]
        refine takeH (i := 4) (d := some 54) (v := .pointer (some ⟨b, 4, none⟩)) rfl rfl (by kernel_rfl) (by kernel_rfl) (by kernel_rfl) (fun _ _ _ h => h) (Or.inl ⟨by rfl, fun w' _ => by go_simp⟩) hS ?_
        try simp only [Act.put, List.setIfInBounds_toArray, List.set_cons_zero, List.set_cons_succ]
        refine takeH (i := 6) (d := some 56) (v := .agg #[.int .i64 m, .bool l45, .bool false]) rfl rfl (by kernel_rfl) (by kernel_rfl) (by kernel_rfl) (fun _ _ _ h => h) (Or.inl ⟨by rfl, fun w' hS' => by have s0 := hS' _ (.head _); have s1 := hS' _ (.tail _ (.head _)); have s2 := hS' _ (.tail _ (.tail _ (.head _))); dsimp only at s0 s1 s2; go_simp⟩) hS ?_
        try simp only [Act.put, List.setIfInBounds_toArray, List.set_cons_zero, List.set_cons_succ]
        refine takeH (i := 7) (d := some 57) (v := .pointer (some ⟨b, 0, none⟩)) rfl rfl (by kernel_rfl) (by kernel_rfl) (by kernel_rfl) (fun _ _ _ h => h) (Or.inl ⟨by rfl, fun w' _ => by go_simp⟩) hS ?_
        try simp only [Act.put, List.setIfInBounds_toArray, List.set_cons_zero, List.set_cons_succ]
        refine takeH (i := 8) (d := some 58) (v := .pointer (some ⟨b, 0, none⟩)) rfl rfl (by kernel_rfl) (by kernel_rfl) (by kernel_rfl) (fun _ _ _ h => h) (Or.inl ⟨by rfl, fun w' _ => by go_simp⟩) hS ?_
        try simp only [Act.put, List.setIfInBounds_toArray, List.set_cons_zero, List.set_cons_succ]
        refine takeH (i := 9) (d := some 59) (v := .pointer (some ⟨b, 2, none⟩)) rfl rfl (by kernel_rfl) (by kernel_rfl) (by kernel_rfl) (fun _ _ _ h => h) (Or.inl ⟨by rfl, fun w' _ => by go_simp⟩) hS ?_
        try simp only [Act.put, List.setIfInBounds_toArray, List.set_cons_zero, List.set_cons_succ]
        refine takeH (i := 11) (d := some 61) (v := encS [c]) rfl rfl (by kernel_rfl) (by kernel_rfl) (by kernel_rfl) (fun _ _ _ h => h) (Or.inl ⟨by rfl, fun w' _ => by go_simp⟩) hS ?_
        try simp only [Act.put, List.setIfInBounds_toArray, List.set_cons_zero, List.set_cons_succ]
        refine takeH (i := 12) (d := some 62) (v := .int .u8 c.toNat) rfl rfl (by kernel_rfl) (by kernel_rfl) (by kernel_rfl) (fun _ _ _ h => h) (Or.inl ⟨by rfl, fun w' _ => by go_simp⟩) hS ?_
        try simp only [Act.put, List.setIfInBounds_toArray, List.set_cons_zero, List.set_cons_succ]
        refine wpAnyH_ready (rs := [5, 10]) (by kernel_rfl) (by simp) (AllReadyH.cons rfl (fun K hK => ?_) (AllReadyH.cons rfl (fun K hK => ?_) AllReadyH.nil))
        · skip
          go_simp
          refine hK.out _ _ hS (fun _ => ?_)
          clear hK K
          try simp only [Act.put, List.setIfInBounds_toArray, List.set_cons_zero, List.set_cons_succ]
          refine wpAnyH_ready (rs := [10]) (by kernel_rfl) (by simp) (AllReadyH.cons rfl (fun K hK => ?_) AllReadyH.nil)
          go_simp
          go_at_call 16
          refine cS.mono ?_
          rintro e w7 ⟨rfl, hbb7, ho7⟩
          have hbk7 : w7.heap[b]? = some (.cells (plC f (k + g.length + d.length + 1) p v cv false) 56 (0, 0)) := hbb7.trans HBK.out
          have hrow7 := ho7.row HR6.out ne_cv_u8 HNE.out
          have hfb7 : w7.heap[N]? = some (.cells #[.int .i64 m, .bool l45, .bool false] 60 (0, 0)) := (ho7.block N (lt_of_block HFB.out) hnb (.inr ⟨_, _, _, HFB.out, ne_fd_u8⟩)).trans HFB.out
          have hS7 : Cells [(⟨N, 0, none⟩, .int .i64 m), (⟨N, 1, none⟩, .bool l45), (⟨N, 2, none⟩, .bool false)] w7 := cells3 (Lib.cell_of_heap hfb7 0) (Lib.cell_of_heap hfb7 1) (Lib.cell_of_heap hfb7 2)
          have x47 : w7.cell? ⟨b, 4, none⟩ = some cv := Lib.cell_of_heap hbk7 4
          have x47a : (w7.alloc (.cells #[.int .i64 m, .bool l45, .bool false, encS acc, .int .u8 c.toNat] 62)).cell? ⟨b, 4, none⟩ = some cv := Lib.cell_of_heap ((Below.heap_alloc w7 _ b (lt_of_block hbk7)).trans hbk7) 4
          have hs7 : W6.heap.size ≤ w7.heap.size := ho7.size
          have HBK7 := hid hbk7
          have HFB7 := hid hfb7
          clear hbk7 hfb7
          go_wp2_with fail
          refine hK.out _ _ hS7 (fun _ => ?_)
          clear hK K
          try simp only [Act.put, List.setIfInBounds_toArray, List.set_cons_zero, List.set_cons_succ]
          refine takeH (i := 13) (d := some 63) (v := .agg #[.int .i64 m, .bool l45, .bool false, encS acc, .int .u8 c.toNat]) rfl rfl (by kernel_rfl) (by kernel_rfl) (by kernel_rfl) (fun _ _ _ h => h) (Or.inl ⟨by rfl, fun w' _ => by go_simp⟩) hS7 ?_
          try simp only [Act.put, List.setIfInBounds_toArray, List.set_cons_zero, List.set_cons_succ]
          refine wpAnyH_ready (rs := [14]) (by kernel_rfl) (by simp) (AllReadyH.cons rfl (fun K hK => ?_) AllReadyH.nil)
          go_simp
          refine hK.out _ _ (hS7.below ((Below.refl _ _).alloc (Nat.le_refl _) _)) (fun _ => ?_)
          clear hK K
          try simp only [Act.put, List.setIfInBounds_toArray, List.set_cons_zero, List.set_cons_succ]
          refine wpAnyH_ready (rs := [15]) (by kernel_rfl) (by simp) (AllReadyH.cons rfl (fun K hK => ?_) AllReadyH.nil)
          refine step_append_lies _ (by rfl) _ _ _ (by rfl) B 62 i0 (.agg #[.int .i64 0, .bool false, .bool false, .string .empty, .int .u8 0]) 5 40 Tryd.underlying37 hi hz0 hz1 hz2 rfl (by omega) cv cvs.length (cvsV cvs) (by rfl) (hrow7.alloc _) ⟨w7.heap.size, 0, none⟩ 1 1 [.int .i64 m, .bool l45, .bool false, encS acc, .int .u8 c.toNat] (by rfl) (by rfl) (World.news_of_block (cs := #[.int .i64 m, .bool l45, .bool false, encS acc, .int .u8 c.toNat]) (t := 62) (fr := (0, 0)) (heap_alloc_new w7 _)) (by simp [Value.oneCell']) (by omega) (by unfold maxLen; omega) (by omega) (by simp; omega) (w7.heap.size + 1) (by simp) ?_
          intro gg cap w8 hown8 hg8 _ _
          have hbk8 : w8.heap[b]? = some (.cells (plC f (k + g.length + d.length + 1) p v cv false) 56 (0, 0)) := (hg8.block b (Nat.lt_of_lt_of_le (lt_of_block HBK7.out) (by simp)) (fun e => ownBlock_neE hrow7 HBK7.out ne_pl_cv e.symm)).trans ((Below.heap_alloc w7 _ b (lt_of_block HBK7.out)).trans HBK7.out)
          have hS8 := cells_grown (hS7.below ((Below.refl _ _).alloc (Nat.le_refl _) _)) hg8 (fun e => ownBlock_neE hrow7 HFB7.out ne_fd_cv e.symm)
          have x48 : w8.cell? ⟨b, 4, none⟩ = some cv := Lib.cell_of_heap hbk8 4
          have f48 : w8.frozen? ⟨b, 4, none⟩ = false := Lib.frozen_of_heap hbk8 4
          have HBK8 := hid hbk8
          clear hbk8
          change K (Act.put _ (some 65) _) _
          refine hK.out _ _ hS8 (fun _ => ?_)
          clear hK K
          try simp only [Act.put, List.setIfInBounds_toArray, List.set_cons_zero, List.set_cons_succ]
          refine takeH (i := 16) (d := some 66) (v := .pointer (some ⟨b, 0, none⟩)) rfl rfl (by kernel_rfl) (by kernel_rfl) (by kernel_rfl) (fun _ _ _ h => h) (Or.inl ⟨by rfl, fun w' _ => by go_simp⟩) hS8 ?_
          try simp only [Act.put, List.setIfInBounds_toArray, List.set_cons_zero, List.set_cons_succ]
          refine takeH (i := 17) (d := some 67) (v := .pointer (some ⟨b, 4, none⟩)) rfl rfl (by kernel_rfl) (by kernel_rfl) (by kernel_rfl) (fun _ _ _ h => h) (Or.inl ⟨by rfl, fun w' _ => by go_simp⟩) hS8 ?_
          try simp only [Act.put, List.setIfInBounds_toArray, List.set_cons_zero, List.set_cons_succ]
          refine takeH (i := 18) (d := some 68) (v := .pointer (some ⟨b, 4, none⟩)) rfl rfl (by kernel_rfl) (by kernel_rfl) (by kernel_rfl) (fun _ _ _ h => h) (Or.inl ⟨by rfl, fun w' _ => by go_simp⟩) hS8 ?_
          try simp only [Act.put, List.setIfInBounds_toArray, List.set_cons_zero, List.set_cons_succ]
          refine wpAnyH_ready (rs := [19]) (by kernel_rfl) (by simp) (AllReadyH.cons rfl (fun K hK => ?_) AllReadyH.nil)
          go_simp
          refine hK.out _ _ (cells_set hS8 hnb _) (fun _ => ?_)
          clear hK K
          try simp only [Act.put, List.setIfInBounds_toArray, List.set_cons_zero, List.set_cons_succ]
          refine wpAnyH_done (by kernel_rfl) ?_ _
          have hown9 : w8.ownsRow B 62 5 (.slice (some ⟨gg, 0, none⟩) (cvs.length + 1) cap) (cvs ++ [CN]).length (cvsV (cvs ++ [CN])) := by
            unfold cvsV at hown8 ⊢
            rw [List.flatMap_append, List.length_append, List.flatMap_cons, List.flatMap_nil, List.append_nil, HCV.out]
            exact hown8
          have hb9 := heap_setCell_same w8 b 4 _ 56 (.slice (some ⟨gg, 0, none⟩) (cvs.length + 1) cap) HBK8.out
          have hB7 : Below B W6 w7 := ((Below.refl B W6).drew).trans (ho7.below hBb (by show B ≤ W6.heap.size; omega))
          have hB8 : Below B W6 (w8.setCell ⟨b, 4, none⟩ (.slice (some ⟨gg, 0, none⟩) (cvs.length + 1) cap)) := ((hB7.alloc (by omega) _).grown hg8 (by simp; omega) (fun j e => (hrow7.lt j e).1)).setCell hBb _
          have cR := breset_any 56 B b 2 _ _ ne_pl_u8 hBb hb9 (by simp [plC])
          have hs8 : B ≤ w8.heap.size := by have := hB8.size; simp at this; omega
          have HF := hid (And.intro hown9 (And.intro HBK8.out (And.intro hs8 (HB6.out.trans hB8))))
          clear hown8 hown9 hg8 hrow7 hb9 hB7 hB8 ho7 hbb7 cS hS hS7 hS8 x47 x47a x48 f48 x4
          go_wp2_with fail
          refine cR.mono ?_
          rintro e w9 ⟨rfl, hR, ho9⟩
          have HG2 := hid (And.intro (PlAt.added HF.out.2.1 HF.out.1 HF.out.2.2.1 hR ho9) (HF.out.2.2.2.trans (ho9.below hBb (by simpa using HF.out.2.2.1))))
          clear hR ho9 cR
          go_wp2_with fail
          go_end0
          exact ⟨rfl, HP.out _ HG2.out.1, HG2.out.2⟩
        · skip
          go_simp
          go_at_call 16
          refine cS.mono ?_
          rintro e w7 ⟨rfl, hbb7, ho7⟩
          have hbk7 : w7.heap[b]? = some (.cells (plC f (k + g.length + d.length + 1) p v cv false) 56 (0, 0)) := hbb7.trans HBK.out
          have hrow7 := ho7.row HR6.out ne_cv_u8 HNE.out
          have hfb7 : w7.heap[N]? = some (.cells #[.int .i64 m, .bool l45, .bool false] 60 (0, 0)) := (ho7.block N (lt_of_block HFB.out) hnb (.inr ⟨_, _, _, HFB.out, ne_fd_u8⟩)).trans HFB.out
          have hS7 : Cells [(⟨N, 0, none⟩, .int .i64 m), (⟨N, 1, none⟩, .bool l45), (⟨N, 2, none⟩, .bool false)] w7 := cells3 (Lib.cell_of_heap hfb7 0) (Lib.cell_of_heap hfb7 1) (Lib.cell_of_heap hfb7 2)
          have x47 : w7.cell? ⟨b, 4, none⟩ = some cv := Lib.cell_of_heap hbk7 4
          have x47a : (w7.alloc (.cells #[.int .i64 m, .bool l45, .bool false, encS acc, .int .u8 c.toNat] 62)).cell? ⟨b, 4, none⟩ = some cv := Lib.cell_of_heap ((Below.heap_alloc w7 _ b (lt_of_block hbk7)).trans hbk7) 4
          have hs7 : W6.heap.size ≤ w7.heap.size := ho7.size
          have HBK7 := hid hbk7
          have HFB7 := hid hfb7
          clear hbk7 hfb7
          go_wp2_with fail
          refine hK.out _ _ hS7 (fun _ => ?_)
          clear hK K
          try simp only [Act.put, List.setIfInBounds_toArray, List.set_cons_zero, List.set_cons_succ]
          refine takeH (i := 13) (d := some 63) (v := .agg #[.int .i64 m, .bool l45, .bool false, encS acc, .int .u8 c.toNat]) rfl rfl (by kernel_rfl) (by kernel_rfl) (by kernel_rfl) (fun _ _ _ h => h) (Or.inl ⟨by rfl, fun w' _ => by go_simp⟩) hS7 ?_
          try simp only [Act.put, List.setIfInBounds_toArray, List.set_cons_zero, List.set_cons_succ]
          refine wpAnyH_ready (rs := [5, 14]) (by kernel_rfl) (by simp) (AllReadyH.cons rfl (fun K hK => ?_) (AllReadyH.cons rfl (fun K hK => ?_) AllReadyH.nil))
          · skip
            go_simp
            refine hK.out _ _ hS7 (fun _ => ?_)
            clear hK K
            try simp only [Act.put, List.setIfInBounds_toArray, List.set_cons_zero, List.set_cons_succ]
            refine wpAnyH_ready (rs := [14]) (by kernel_rfl) (by simp) (AllReadyH.cons rfl (fun K hK => ?_) AllReadyH.nil)
            go_simp
            refine hK.out _ _ (hS7.below ((Below.refl _ _).alloc (Nat.le_refl _) _)) (fun _ => ?_)
            clear hK K
            try simp only [Act.put, List.setIfInBounds_toArray, List.set_cons_zero, List.set_cons_succ]
            refine wpAnyH_ready (rs := [15]) (by kernel_rfl) (by simp) (AllReadyH.cons rfl (fun K hK => ?_) AllReadyH.nil)
            refine step_append_lies _ (by rfl) _ _ _ (by rfl) B 62 i0 (.agg #[.int .i64 0, .bool false, .bool false, .string .empty, .int .u8 0]) 5 40 Tryd.underlying37 hi hz0 hz1 hz2 rfl (by omega) cv cvs.length (cvsV cvs) (by rfl) (hrow7.alloc _) ⟨w7.heap.size, 0, none⟩ 1 1 [.int .i64 m, .bool l45, .bool false, encS acc, .int .u8 c.toNat] (by rfl) (by rfl) (World.news_of_block (cs := #[.int .i64 m, .bool l45, .bool false, encS acc, .int .u8 c.toNat]) (t := 62) (fr := (0, 0)) (heap_alloc_new w7 _)) (by simp [Value.oneCell']) (by omega) (by unfold maxLen; omega) (by omega) (by simp; omega) (w7.heap.size + 1) (by simp) ?_
            intro gg cap w8 hown8 hg8 _ _
            have hbk8 : w8.heap[b]? = some (.cells (plC f (k + g.length + d.length + 1) p v cv false) 56 (0, 0)) := (hg8.block b (Nat.lt_of_lt_of_le (lt_of_block HBK7.out) (by simp)) (fun e => ownBlock_neE hrow7 HBK7.out ne_pl_cv e.symm)).trans ((Below.heap_alloc w7 _ b (lt_of_block HBK7.out)).trans HBK7.out)
            have hS8 := cells_grown (hS7.below ((Below.refl _ _).alloc (Nat.le_refl _) _)) hg8 (fun e => ownBlock_neE hrow7 HFB7.out ne_fd_cv e.symm)
            have x48 : w8.cell? ⟨b, 4, none⟩ = some cv := Lib.cell_of_heap hbk8 4
            have f48 : w8.frozen? ⟨b, 4, none⟩ = false := Lib.frozen_of_heap hbk8 4
            have HBK8 := hid hbk8
            clear hbk8
            change K (Act.put _ (some 65) _) _
            refine hK.out _ _ hS8 (fun _ => ?_)
            clear hK K
            try simp only [Act.put, List.setIfInBounds_toArray, List.set_cons_zero, List.set_cons_succ]
            refine takeH (i := 16) (d := some 66) (v := .pointer (some ⟨b, 0, none⟩)) rfl rfl (by kernel_rfl) (by kernel_rfl) (by kernel_rfl) (fun _ _ _ h => h) (Or.inl ⟨by rfl, fun w' _ => by go_simp⟩) hS8 ?_
            try simp only [Act.put, List.setIfInBounds_toArray, List.set_cons_zero, List.set_cons_succ]
            refine takeH (i := 17) (d := some 67) (v := .pointer (some ⟨b, 4, none⟩)) rfl rfl (by kernel_rfl) (by kernel_rfl) (by kernel_rfl) (fun _ _ _ h => h) (Or.inl ⟨by rfl, fun w' _ => by go_simp⟩) hS8 ?_
            try simp only [Act.put, List.setIfInBounds_toArray, List.set_cons_zero, List.set_cons_succ]
            refine takeH (i := 18) (d := some 68) (v := .pointer (some ⟨b, 4, none⟩)) rfl rfl (by kernel_rfl) (by kernel_rfl) (by kernel_rfl) (fun _ _ _ h => h) (Or.inl ⟨by rfl, fun w' _ => by go_simp⟩) hS8 ?_
            try simp only [Act.put, List.setIfInBounds_toArray, List.set_cons_zero, List.set_cons_succ]
            refine wpAnyH_ready (rs := [19]) (by kernel_rfl) (by simp) (AllReadyH.cons rfl (fun K hK => ?_) AllReadyH.nil)
            go_simp
            refine hK.out _ _ (cells_set hS8 hnb _) (fun _ => ?_)
            clear hK K
            try simp only [Act.put, List.setIfInBounds_toArray, List.set_cons_zero, List.set_cons_succ]
            refine wpAnyH_done (by kernel_rfl) ?_ _
            have hown9 : w8.ownsRow B 62 5 (.slice (some ⟨gg, 0, none⟩) (cvs.length + 1) cap) (cvs ++ [CN]).length (cvsV (cvs ++ [CN])) := by
              unfold cvsV at hown8 ⊢
              rw [List.flatMap_append, List.length_append, List.flatMap_cons, List.flatMap_nil, List.append_nil, HCV.out]
              exact hown8
            have hb9 := heap_setCell_same w8 b 4 _ 56 (.slice (some ⟨gg, 0, none⟩) (cvs.length + 1) cap) HBK8.out
            have hB7 : Below B W6 w7 := ((Below.refl B W6).drew).trans (ho7.below hBb (by show B ≤ W6.heap.size; omega))
            have hB8 : Below B W6 (w8.setCell ⟨b, 4, none⟩ (.slice (some ⟨gg, 0, none⟩) (cvs.length + 1) cap)) := ((hB7.alloc (by omega) _).grown hg8 (by simp; omega) (fun j e => (hrow7.lt j e).1)).setCell hBb _
            have cR := breset_any 56 B b 2 _ _ ne_pl_u8 hBb hb9 (by simp [plC])
            have hs8 : B ≤ w8.heap.size := by have := hB8.size; simp at this; omega
            have HF := hid (And.intro hown9 (And.intro HBK8.out (And.intro hs8 (HB6.out.trans hB8))))
            clear hown8 hown9 hg8 hrow7 hb9 hB7 hB8 ho7 hbb7 cS hS hS7 hS8 x47 x47a x48 f48 x4
            go_wp2_with fail
            refine cR.mono ?_
            rintro e w9 ⟨rfl, hR, ho9⟩
            have HG2 := hid (And.intro (PlAt.added HF.out.2.1 HF.out.1 HF.out.2.2.1 hR ho9) (HF.out.2.2.2.trans (ho9.below hBb (by simpa using HF.out.2.2.1))))
            clear hR ho9 cR
            go_wp2_with fail
            go_end0
            exact ⟨rfl, HP.out _ HG2.out.1, HG2.out.2⟩
          · skip
            go_simp
            refine hK.out _ _ (hS7.below ((Below.refl _ _).alloc (Nat.le_refl _) _)) (fun _ => ?_)
            clear hK K
            try simp only [Act.put, List.setIfInBounds_toArray, List.set_cons_zero, List.set_cons_succ]
            refine wpAnyH_ready (rs := [5]) (by kernel_rfl) (by simp) (AllReadyH.cons rfl (fun K hK => ?_) AllReadyH.nil)
            go_simp
            refine hK.out _ _ (hS7.below ((Below.refl _ _).alloc (Nat.le_refl _) _)) (fun _ => ?_)
            clear hK K
            try simp only [Act.put, List.setIfInBounds_toArray, List.set_cons_zero, List.set_cons_succ]
            refine wpAnyH_ready (rs := [15]) (by kernel_rfl) (by simp) (AllReadyH.cons rfl (fun K hK => ?_) AllReadyH.nil)
            refine step_append_lies _ (by rfl) _ _ _ (by rfl) B 62 i0 (.agg #[.int .i64 0, .bool false, .bool false, .string .empty, .int .u8 0]) 5 40 Tryd.underlying37 hi hz0 hz1 hz2 rfl (by omega) cv cvs.length (cvsV cvs) (by rfl) (hrow7.alloc _) ⟨w7.heap.size, 0, none⟩ 1 1 [.int .i64 m, .bool l45, .bool false, encS acc, .int .u8 c.toNat] (by rfl) (by rfl) (World.news_of_block (cs := #[.int .i64 m, .bool l45, .bool false, encS acc, .int .u8 c.toNat]) (t := 62) (fr := (0, 0)) (heap_alloc_new w7 _)) (by simp [Value.oneCell']) (by omega) (by unfold maxLen; omega) (by omega) (by simp; omega) (w7.heap.size + 1) (by simp) ?_
            intro gg cap w8 hown8 hg8 _ _
            have hbk8 : w8.heap[b]? = some (.cells (plC f (k + g.length + d.length + 1) p v cv false) 56 (0, 0)) := (hg8.block b (Nat.lt_of_lt_of_le (lt_of_block HBK7.out) (by simp)) (fun e => ownBlock_neE hrow7 HBK7.out ne_pl_cv e.symm)).trans ((Below.heap_alloc w7 _ b (lt_of_block HBK7.out)).trans HBK7.out)
            have hS8 := cells_grown (hS7.below ((Below.refl _ _).alloc (Nat.le_refl _) _)) hg8 (fun e => ownBlock_neE hrow7 HFB7.out ne_fd_cv e.symm)
            have x48 : w8.cell? ⟨b, 4, none⟩ = some cv := Lib.cell_of_heap hbk8 4
            have f48 : w8.frozen? ⟨b, 4, none⟩ = false := Lib.frozen_of_heap hbk8 4
            have HBK8 := hid hbk8
            clear hbk8
            change K (Act.put _ (some 65) _) _
            refine hK.out _ _ hS8 (fun _ => ?_)
            clear hK K
            try simp only [Act.put, List.setIfInBounds_toArray, List.set_cons_zero, List.set_cons_succ]
            refine takeH (i := 16) (d := some 66) (v := .pointer (some ⟨b, 0, none⟩)) rfl rfl (by kernel_rfl) (by kernel_rfl) (by kernel_rfl) (fun _ _ _ h => h) (Or.inl ⟨by rfl, fun w' _ => by go_simp⟩) hS8 ?_
            try simp only [Act.put, List.setIfInBounds_toArray, List.set_cons_zero, List.set_cons_succ]
            refine takeH (i := 17) (d := some 67) (v := .pointer (some ⟨b, 4, none⟩)) rfl rfl (by kernel_rfl) (by kernel_rfl) (by kernel_rfl) (fun _ _ _ h => h) (Or.inl ⟨by rfl, fun w' _ => by go_simp⟩) hS8 ?_
            try simp only [Act.put, List.setIfInBounds_toArray, List.set_cons_zero, List.set_cons_succ]
            refine takeH (i := 18) (d := some 68) (v := .pointer (some ⟨b, 4, none⟩)) rfl rfl (by kernel_rfl) (by kernel_rfl) (by kernel_rfl) (fun _ _ _ h => h) (Or.inl ⟨by rfl, fun w' _ => by go_simp⟩) hS8 ?_
            try simp only [Act.put, List.setIfInBounds_toArray, List.set_cons_zero, List.set_cons_succ]
            refine wpAnyH_ready (rs := [19]) (by kernel_rfl) (by simp) (AllReadyH.cons rfl (fun K hK => ?_) AllReadyH.nil)
            go_simp
            refine hK.out _ _ (cells_set hS8 hnb _) (fun _ => ?_)
            clear hK K
            try simp only [Act.put, List.setIfInBounds_toArray, List.set_cons_zero, List.set_cons_succ]
            refine wpAnyH_done (by kernel_rfl) ?_ _
            have hown9 : w8.ownsRow B 62 5 (.slice (some ⟨gg, 0, none⟩) (cvs.length + 1) cap) (cvs ++ [CN]).length (cvsV (cvs ++ [CN])) := by
              unfold cvsV at hown8 ⊢
              rw [List.flatMap_append, List.length_append, List.flatMap_cons, List.flatMap_nil, List.append_nil, HCV.out]
              exact hown8
            have hb9 := heap_setCell_same w8 b 4 _ 56 (.slice (some ⟨gg, 0, none⟩) (cvs.length + 1) cap) HBK8.out
            have hB7 : Below B W6 w7 := ((Below.refl B W6).drew).trans (ho7.below hBb (by show B ≤ W6.heap.size; omega))
            have hB8 : Below B W6 (w8.setCell ⟨b, 4, none⟩ (.slice (some ⟨gg, 0, none⟩) (cvs.length + 1) cap)) := ((hB7.alloc (by omega) _).grown hg8 (by simp; omega) (fun j e => (hrow7.lt j e).1)).setCell hBb _
            have cR := breset_any 56 B b 2 _ _ ne_pl_u8 hBb hb9 (by simp [plC])
            have hs8 : B ≤ w8.heap.size := by have := hB8.size; simp at this; omega
            have HF := hid (And.intro hown9 (And.intro HBK8.out (And.intro hs8 (HB6.out.trans hB8))))
            clear hown8 hown9 hg8 hrow7 hb9 hB7 hB8 ho7 hbb7 cS hS hS7 hS8 x47 x47a x48 f48 x4
            go_wp2_with fail
            refine cR.mono ?_
            rintro e w9 ⟨rfl, hR, ho9⟩
            have HG2 := hid (And.intro (PlAt.added HF.out.2.1 HF.out.1 HF.out.2.2.1 hR ho9) (HF.out.2.2.2.trans (ho9.below hBb (by simpa using HF.out.2.2.1))))
            clear hR ho9 cR
            go_wp2_with fail
            go_end0
            exact ⟨rfl, HP.out _ HG2.out.1, HG2.out.2⟩
end Go.Proofs.YtckmgcdiclkoeaaDoor
