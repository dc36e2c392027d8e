/- TestOpposite: true. Conditions: sizes. -/
import Derived.Test.YtnedjpopadkdeaaDoorGC
import Derived.Test.YtnedjpopadkdeaaDoorGE
import Derived.Test.YtnedjpopadkdeaaDoorDrawn
import Derived.Deep.AppendLies
namespace Go.Proofs.YtnedjpopadkdeaaDoor
open Go.RowKit
open Go.Lib (hid)

theorem opp_math (t : List ND) (l : List (List UInt8)) (h1 : 1 ≤ l.length) (h3 : l.length ≤ 3) :
    (l.length ≠ 2 ∧ evalL t ([33] :: l) = oppL (evalL t l)) ∨ (∃ a b, l = [a, b] ∧ binaryL a = false ∧ evalL t ([33] :: l) = oppL (evalL t l)) ∨ (∃ a b, l = [a, b] ∧ binaryL a = true ∧ evalL t ([33] :: l) = bothL [33] a b) := by
  match l, h1, h3 with
  | [a], _, _ =>
    refine .inl ⟨by simp, ?_⟩
    show e2 t [33] a = oppL (e1 a)
    unfold e2
    rw [if_neg (by decide), if_pos rfl]
  | [a, b], _, _ =>
    cases h : binaryL a
    · refine .inr (.inl ⟨a, b, rfl, h, ?_⟩)
      show e3 t [33] a b = oppL (e2 t a b)
      unfold e3
      rw [if_neg (by rw [h]; decide), if_pos rfl]
    · refine .inr (.inr ⟨a, b, rfl, h, ?_⟩)
      show e3 t [33] a b = bothL [33] a b
      unfold e3
      rw [if_pos h]
  | [a, b, c], _, _ =>
    refine .inl ⟨by simp, ?_⟩
    show e4 t [33] a b c = oppL (e3 t a b c)
    unfold e4
    rw [if_pos rfl]

theorem texts_news {w : World} {g o : Nat} {l : List (List UInt8)} (h : TextsP w (fun _ => True) (some ⟨g, o, none⟩) l) : ∀ j u, (l.map encS)[j]? = some u → w.cell? ((⟨g, o, none⟩ : Addr).add j) = some u := fun j u hu => by
  obtain ⟨hj, rfl⟩ := List.getElem?_eq_some_iff.1 hu
  rw [List.length_map] at hj
  obtain ⟨_, _, e, -, hc⟩ := h j hj
  cases e
  rw [add_at, hc, List.getElem_map]

set_option linter.unusedSimpArgs false in
set_option maxRecDepth 100000 in
set_option maxHeartbeats 8000000 in
theorem opp_walk (AL : Option Addr) (cL : Nat) (l : List (List UInt8)) (A : Option Addr) (c : Nat) (t : List ND) (w : World) (hL : TextsP w (fun _ => True) AL l) (hcl : l.length ≤ cL) (hzl : sizeTs l ≤ 1048576)
    (hT : NodesP w (fun _ => True) A t) (hl : t.length ≤ 1048576 ∧ t.length ≤ c) (hz : ∀ n ∈ t, n.p.length ≤ 1048576 ∧ n.x.length ≤ 1048576) :
    Calls Tryd.prog 4 #[.slice AL l.length cL, .slice A t.length c] w fun e w' => e = .returned (.bool true) ∧ Below w.heap.size w w' := by
  have hzt : SizeT t := fun n hn => by have := hz n hn; omega
  have hll := sizeTs_len l
  have hls : ∀ x ∈ l, x.length ≤ 137438953472 := fun x hx => by have := sizeTs_mem l x hx; omega
  have hl2 : t.length ≤ 1099511627776 ∧ t.length ≤ c := ⟨by omega, hl.2⟩
  have HT := hid hT
  have HL := hid hL
  have cA := alive_any w
  by_cases h0 : l.length = 0
  · have g0 : ((l.length : Int) == 0) = true := by simp [h0]
    clear hT hL hz hzt hls
    go_enter Tryd.func4, Tryd.ntmps4
    go_wp2_with fail
    refine cA.mono ?_
    rintro e w1 ⟨rfl, hb1⟩
    have HB1 := hid hb1
    clear hb1 cA
    go_wp2_with fail
    go_ret
    exact ⟨rfl, HB1.out⟩
  have g0 : ((l.length : Int) == 0) = false := by simpa using h0
  by_cases h3 : 3 < l.length
  · have g3 : (3 : Int) < (l.length : Int) := by omega
    clear hT hL hz hzt hls
    go_enter Tryd.func4, Tryd.ntmps4
    go_wp2_with fail
    refine cA.mono ?_
    rintro e w1 ⟨rfl, hb1⟩
    have HB1 := hid hb1
    clear hb1 cA
    go_wp2_with fail
    go_ret
    exact ⟨rfl, HB1.out⟩
  have g3 : ¬ (3 : Int) < (l.length : Int) := by omega
  obtain ⟨g, o, rfl, -, -⟩ := hL 0 (by omega)
  have cE := fun W (h : Below w.heap.size w W) => eval_t (some ⟨g, o, none⟩) A cL c l t W (HL.out.below h) hcl (HT.out.below h) hl2 hzt hls (by omega)
  have cE2 := fun A' c' W (h : Below w.heap.size w W) (hx : TextsP W (fun _ => True) A' ([33] :: l)) (hc : l.length + 1 ≤ c') => eval_t A' A c' c ([33] :: l) t W hx (by simpa using hc) (HT.out.below h) hl2 hzt
    (fun x hx => by rcases List.mem_cons.1 hx with rfl | h; (exact by decide); (exact hls x h)) (by simp; omega)
  have hLO := eval_lo t l
  have hM := opp_math t l (by omega) (by omega)
  obtain ⟨n, hn⟩ : ∃ n, evalL t l = n := ⟨_, rfl⟩
  rw [hn] at cE hM hLO
  obtain ⟨m, hm⟩ : ∃ m, evalL t ([33] :: l) = m := ⟨_, rfl⟩
  rw [hm] at cE2 hM
  obtain ⟨i0, hi, hz0, hz1, hz2⟩ : ∃ i0, Tryd.prog.info? 9 = some i0 ∧ i0.zero = some (.string .empty) ∧ i0.size = 1 ∧ i0.bytes = 16 := ⟨_, rfl, rfl, rfl, rfl⟩
  have hi0 := hid hn
  clear hT hL hz hzt hls hn hm hl2 hi0
  have hzl2 := hid hzl
  go_enter Tryd.func4, Tryd.ntmps4
  go_wp2_with fail
  refine cA.mono ?_
  rintro e w1 ⟨rfl, hb1⟩
  have HB1 := hid hb1
  have hR := World.ownsRow_nil w1 w1.heap.size 9 1
  clear hb1 cA
  have hs1 : w.heap.size ≤ w1.heap.size := HB1.out.size
  have h1c : ∀ u ∈ l.map encS, u.oneCell' = true := fun u hu => by
    obtain ⟨x, -, rfl⟩ := List.mem_map.1 hu
    rfl
  go_wp2_with (at_builtin; first
    | (refine wpList_append_own _ rfl _ _ 22 rfl w1.heap.size 9 i0 _ 1 16 Tryd.underlying22 hi hz0 hz1 hz2 rfl (by decide) _ _ _ rfl (World.ownsRow.alloc (w := w1) hR _) ⟨w1.heap.size, 0, none⟩ 1 1 [encS [33]] rfl rfl (World.news_of_block (cs := #[encS [33]]) (t := 9) (fr := (0, 0)) (heap_alloc_new w1 _)) (by intro u hu; simp at hu; subst hu; rfl) (by decide) (by decide) (by simp) ?_; intro v8 w8 hown8 hg8 _; obtain ⟨g8, c8, rfl⟩ := ownsRow_succ hown8; have HB8 : Hid (Below w.heap.size w w8) := hid ((HB1.out.alloc hs1 _).grown hg8 (by simp; omega) (fun j e => by cases e)); have hT8 := HL.out.below HB8.out; have hs8 : w1.heap.size ≤ w8.heap.size := by (have := hg8.size; simp at this; omega))
    | (refine wpList_append_own _ rfl _ _ 22 rfl w1.heap.size 9 i0 _ 1 16 Tryd.underlying22 hi hz0 hz1 hz2 rfl (by decide) _ _ _ rfl hown8 ⟨g, o, none⟩ l.length cL (l.map encS) rfl (by simp) (texts_news hT8) h1c (by unfold maxLen; omega) (by omega) hs8 ?_; intro v9 w9 hown9 hg9 _; rw [show 0 + 1 + l.length = l.length + 1 by omega] at hown9; obtain ⟨g9, c9, rfl⟩ := ownsRow_succ hown9; have HB9 : Hid (Below w.heap.size w w9) := hid (HB8.out.grown hg9 (by omega) (fun j e => Nat.le_trans hs1 (hown8.lt j e).1))))
  have hc9 : l.length + 1 ≤ c9 := by
    rcases hown9.2 with ⟨h, -⟩ | ⟨gg, cap, cur, hv, -, -, h, -⟩
    · cases h
    · cases hv
      exact h
  have HX := hid (show TextsP w9 (fun _ => True) (some ⟨g9, 0, none⟩) ([33] :: l) from (TextsP.of_own (ls := [33] :: l) hown9).any)
  have cE := cE w9 HB9.out
  have cE2 := fun W (hb : Below w9.heap.size w9 W) => cE2 (some ⟨g9, 0, none⟩) c9 W (HB9.out.trans (hb.mono HB9.out.size)) (HX.out.below hb) hc9
  clear hown8 hown9 hg8 hg9 HB8 hT8 hR HB1
  go_wp2_with fail
  refine cE.mono ?_
  rintro e w10 ⟨rfl, hb10⟩
  have HB10 := hid hb10
  have cE2 := cE2 w10 hb10
  clear cE hb10
  go_wp2_with fail
  refine cE2.mono ?_
  rintro e w11 ⟨rfl, hb11⟩
  have HBW := hid (HB9.out.trans ((HB10.out.trans (hb11.mono HB10.out.size)).mono HB9.out.size))
  have HX11 := hid (HX.out.below (HB10.out.trans (hb11.mono HB10.out.size)))
  clear cE2 hb11 HX HB9 HB10 hl hll hzl h3 g3 h0 g0
  rcases hM with ⟨h2, hm⟩ | ⟨a, b, hl, hbin, hm⟩ | ⟨a, b, hl, hbin, hm⟩
  · have q1 : ((l.length : Int) + 1 == 3) = false := by simp; omega
    have h012 : n = 0 ∨ n = 1 ∨ n = 2 := by omega
    clear HX11 hLO
    rcases h012 with rfl | rfl | rfl
    all_goals
      obtain rfl := hm
      go_wp2_with fail
      go_ret
      exact ⟨rfl, HBW.out⟩
  · have cB := fun W => binary_t a W
    rw [hbin] at cB
    have x1 : w11.cell? ⟨g9, 1, none⟩ = some (encS a) := by
      obtain ⟨_, _, e1, -, h⟩ := HX11.out 1 (by rw [hl]; simp)
      cases e1
      simpa [hl] using h
    have q1 : ((l.length : Int) + 1 == 3) = true := by rw [hl]; rfl
    have q2 : (1 : Int) < (l.length : Int) + 1 := by rw [hl]; simp
    have h012 : n = 0 ∨ n = 1 ∨ n = 2 := by omega
    clear HX11 hLO hl hbin
    rcases h012 with rfl | rfl | rfl
    all_goals
      obtain rfl := hm
      go_wp2_with (go_at_call 12; (with_reducible refine (cB _).mono ?_); rintro e ww ⟨rfl, rfl⟩)
      go_ret
      exact ⟨rfl, HBW.out⟩
  · have cB := fun W => binary_t a W
    rw [hbin] at cB
    have cD := fun W => both_t [33] a b W (by simp) (by have := sizeTs_mem l b (by rw [hl]; simp); have := hzl2.out; omega)
    obtain ⟨v, hv⟩ : ∃ v, bothL [33] a b = v := ⟨_, rfl⟩
    rw [hv] at cD hm
    obtain rfl := hm
    have x0 : w11.cell? ⟨g9, 0, none⟩ = some (encS [33]) := by
      obtain ⟨_, _, e1, -, h⟩ := HX11.out 0 (by simp)
      cases e1
      simpa using h
    have x1 : w11.cell? ⟨g9, 1, none⟩ = some (encS a) := by
      obtain ⟨_, _, e1, -, h⟩ := HX11.out 1 (by rw [hl]; simp)
      cases e1
      simpa [hl] using h
    have x2 : w11.cell? ⟨g9, 2, none⟩ = some (encS b) := by
      obtain ⟨_, _, e1, -, h⟩ := HX11.out 2 (by rw [hl]; simp)
      cases e1
      simpa [hl] using h
    have q1 : ((l.length : Int) + 1 == 3) = true := by rw [hl]; rfl
    have q2 : (1 : Int) < (l.length : Int) + 1 := by rw [hl]; simp
    have q3 : (2 : Int) < (l.length : Int) + 1 := by rw [hl]; simp
    have q0 : (0 : Int) < (l.length : Int) + 1 := by rw [hl]; simp
    clear HX11 hLO hl hbin hv
    go_wp2_with (go_at_call 12; (with_reducible refine (cB _).mono ?_); rintro e ww ⟨rfl, rfl⟩)
    -- region
    refine wp_region_held_drew (S := Cells [(⟨g9, 0, none⟩, encS [33]), (⟨g9, 1, none⟩, encS a), (⟨g9, 2, none⟩, encS b)]) (by kernel_rfl) (by intro q hq; simp only [List.mem_cons, List.not_mem_nil, or_false] at hq; rcases hq with rfl | rfl | rfl <;> assumption) (fun hS => ?_)
    have HBd := hid (show Below w.heap.size w w11.drew from below_drewN HBW.out 1)
    clear x0 x1 x2 HBW
    refine takeH (i := 0) (d := some 38) (v := .int .i64 m) rfl rfl (by kernel_rfl) (by kernel_rfl) (by kernel_rfl) (fun _ _ _ h => h) (Or.inl ⟨by rfl, fun w' _ => by go_simp⟩) hS ?_
    try simp only [Act.put, List.setIfInBounds_toArray, List.set_cons_zero, List.set_cons_succ]
    refine takeH (i := 1) (d := some 39) (v := .slice (some ⟨g9, 0, none⟩) (l.length + 1) c9) rfl rfl (by kernel_rfl) (by kernel_rfl) (by kernel_rfl) (fun _ _ _ h => h) (Or.inl ⟨by rfl, fun w' _ => by go_simp⟩) hS ?_
    try simp only [Act.put, List.setIfInBounds_toArray, List.set_cons_zero, List.set_cons_succ]
    refine takeH (i := 2) (d := some 40) (v := .pointer (some ⟨g9, 0, none⟩)) rfl rfl (by kernel_rfl) (by kernel_rfl) (by kernel_rfl) (fun _ _ _ h => h) (Or.inl ⟨by rfl, fun w' _ => by go_simp⟩) hS ?_
    try simp only [Act.put, List.setIfInBounds_toArray, List.set_cons_zero, List.set_cons_succ]
    refine takeH (i := 3) (d := some 41) (v := encS [33]) rfl rfl (by kernel_rfl) (by kernel_rfl) (by kernel_rfl) (fun _ _ _ h => h) (Or.inl ⟨by rfl, fun w' hS' => by have s0 := hS' _ (.head _); dsimp only at s0; go_simp⟩) hS ?_
    try simp only [Act.put, List.setIfInBounds_toArray, List.set_cons_zero, List.set_cons_succ]
    refine takeH (i := 4) (d := some 42) (v := .slice (some ⟨g9, 0, none⟩) (l.length + 1) c9) rfl rfl (by kernel_rfl) (by kernel_rfl) (by kernel_rfl) (fun _ _ _ h => h) (Or.inl ⟨by rfl, fun w' _ => by go_simp⟩) hS ?_
    try simp only [Act.put, List.setIfInBounds_toArray, List.set_cons_zero, List.set_cons_succ]
    refine takeH (i := 5) (d := some 43) (v := .pointer (some ⟨g9, 1, none⟩)) rfl rfl (by kernel_rfl) (by kernel_rfl) (by kernel_rfl) (fun _ _ _ h => h) (Or.inl ⟨by rfl, fun w' _ => by go_simp⟩) hS ?_
    try simp only [Act.put, List.setIfInBounds_toArray, List.set_cons_zero, List.set_cons_succ]
    refine takeH (i := 6) (d := some 44) (v := encS a) rfl rfl (by kernel_rfl) (by kernel_rfl) (by kernel_rfl) (fun _ _ _ h => h) (Or.inl ⟨by rfl, fun w' hS' => by have s1 := hS' _ (.tail _ (.head _)); dsimp only at s1; go_simp⟩) hS ?_
    try simp only [Act.put, List.setIfInBounds_toArray, List.set_cons_zero, List.set_cons_succ]
    refine takeH (i := 7) (d := some 45) (v := .slice (some ⟨g9, 0, none⟩) (l.length + 1) c9) rfl rfl (by kernel_rfl) (by kernel_rfl) (by kernel_rfl) (fun _ _ _ h => h) (Or.inl ⟨by rfl, fun w' _ => by go_simp⟩) hS ?_
    try simp only [Act.put, List.setIfInBounds_toArray, List.set_cons_zero, List.set_cons_succ]
    refine takeH (i := 8) (d := some 46) (v := .pointer (some ⟨g9, 2, none⟩)) rfl rfl (by kernel_rfl) (by kernel_rfl) (by kernel_rfl) (fun _ _ _ h => h) (Or.inl ⟨by rfl, fun w' _ => by go_simp⟩) hS ?_
    try simp only [Act.put, List.setIfInBounds_toArray, List.set_cons_zero, List.set_cons_succ]
    refine takeH (i := 9) (d := some 47) (v := encS b) rfl rfl (by kernel_rfl) (by kernel_rfl) (by kernel_rfl) (fun _ _ _ h => h) (Or.inl ⟨by rfl, fun w' hS' => by have s2 := hS' _ (.tail _ (.tail _ (.head _))); dsimp only at s2; go_simp⟩) hS ?_
    try simp only [Act.put, List.setIfInBounds_toArray, List.set_cons_zero, List.set_cons_succ]
    refine wpAnyH_ready (rs := [10]) (by kernel_rfl) (by simp) (AllReadyH.cons rfl (fun K hK => ?_) AllReadyH.nil)
    go_simp
    go_at_call 16
    refine (cD _).mono ?_
    rintro e w12 ⟨rfl, hb12⟩
    have hS2 := hS.below hb12
    have HBe := hid (HBd.out.trans (hb12.mono HBd.out.size))
    go_wp2_with fail
    refine hK.out _ _ hS2 (fun _ => ?_)
    clear hK K
    try simp only [Act.put, List.setIfInBounds_toArray, List.set_cons_zero, List.set_cons_succ]
    refine takeH (i := 11) (d := some 49) (v := .bool true) rfl rfl (by kernel_rfl) (by kernel_rfl) (by kernel_rfl) (fun _ _ _ h => h) (Or.inl ⟨by rfl, fun w' _ => by go_simp⟩) hS2 ?_
    try simp only [Act.put, List.setIfInBounds_toArray, List.set_cons_zero, List.set_cons_succ]
    refine takeH (i := 12) (d := some 4) (v := .bool true) rfl rfl (by kernel_rfl) (by kernel_rfl) (by kernel_rfl) (fun _ _ _ h => h) (Or.inl ⟨by rfl, fun w' _ => by go_simp⟩) hS2 ?_
    try simp only [Act.put, List.setIfInBounds_toArray, List.set_cons_zero, List.set_cons_succ]
    refine wpAnyH_done (by kernel_rfl) ?_ _
    go_wp2_with fail
    go_ret
    exact ⟨rfl, HBe.out⟩
end Go.Proofs.YtnedjpopadkdeaaDoor
