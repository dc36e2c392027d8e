/- What the statement of Files12Said leans on, part 4: PgP, PgQ, PgR, UjD, TesM, UtN, NumE, TwM, LnP, TwB, UjE, UjF, UjL, UjG, UtP, UtR, UjN, PgS, PgU, UjO, UjP. Conditions: each theorem's own. -/
import Derived.Test.YtgbibgppjicbgaaGreatDoorKFC

namespace Go.Proofs.YtgbibgppjicbgaaGreatDoor
open Go.RowKit
open Go.Lib (hid)
def ClosR (N ab : Nat) (w0 : World) (q : List ND × Int) (n : Int) (W' : World) : Prop :=
  n = q.2 ∧ ∃ a c, W'.heap[ab]? = some (.cells #[.slice a q.1.length c] 23 (0, 0)) ∧ OwnN W' N a c q.1 ∧ Below N w0 W'
theorem closR_nil {N ab : Nat} {w0 W' : World} {q : List ND × Int} {f : Int} (hq : q = ([], f)) (h4 : W'.heap[ab]? = some (.cells #[.slice none 0 0] 23 (0, 0))) (hB : Below N w0 W') : AtPost (ClosR N ab w0 q) (.returned (.int .i64 f)) W' := by
  subst hq
  exact ⟨f, rfl, rfl, none, 0, h4, World.ownsRow_nil _ _ _ _, hB⟩
theorem nodes_drop {w : World} {A : Option Addr} {c b : Nat} {t : List ND} (h : NodesP w (fun _ => True) A t) (hc : t.length ≤ c) : NodesP w (fun _ => True) (if c = b then A else A.map (·.add (b * 3))) (t.drop b) := fun j hj => by
  rw [List.length_drop] at hj
  obtain ⟨g, o, rfl, _, c0, c1, c2⟩ := h (b + j) (by omega)
  rw [if_neg (by omega)]
  refine ⟨g, o + b * 3, by simp [add_at], trivial, ?_, ?_, ?_⟩
  · rw [List.getElem_drop, show o + b * 3 + j * 3 = o + (b + j) * 3 by omega]; exact c0
  · rw [List.getElem_drop, show o + b * 3 + j * 3 = o + (b + j) * 3 by omega]; exact c1
  · rw [List.getElem_drop, show o + b * 3 + j * 3 = o + (b + j) * 3 by omega]; exact c2
theorem okT_x {t : List ND} (h : OkT t) {n : ND} (hn : n ∈ t) : n.x.length ≤ 65536 := Nat.le_trans (sumX_mem hn) h.sum
theorem joined3 (A D : Option Addr) (c1 c3 : Nat) (l1 l3 : List ND) (n : ND) (w5 : World) (h1 : NodesP w5 (fun _ => True) A l1) (h3 : NodesP w5 (fun _ => True) D l3) (ht : (l1 ++ n :: l3).length ≤ 1048576) (hz : SizeT (l1 ++ n :: l3)) :
    Calls Tryz.prog 281 #[.slice (some ⟨w5.heap.size + 1, 0, none⟩) 3 3] ((w5.drew.alloc (.cells #[encS n.p, .bool n.d, encS n.x] 58)).alloc (.cells #[.slice A l1.length c1, .slice (some ⟨w5.heap.size, 0, none⟩) 1 1, .slice D l3.length c3] 23))
      fun e w' => ∃ a c', e = .returned (.slice a (l1 ++ n :: l3).length c') ∧ OwnN w' w5.heap.size a c' (l1 ++ n :: l3) ∧ Below w5.heap.size w5 w' := by
  obtain ⟨ss, hss⟩ : ∃ ss : List (Option Addr × Nat × List ND), ss = [(A, c1, l1), (some ⟨w5.heap.size, 0, none⟩, 1, [n]), (D, c3, l3)] := ⟨_, rfl⟩
  have hall : allN ss = l1 ++ n :: l3 := by rw [hss]; simp [allN]
  have hb : Below w5.heap.size w5 (w5.drew.alloc (.cells #[encS n.p, .bool n.d, encS n.x] 58)) := (Below.refl _ w5).drew.alloc (Nat.le_refl _) _
  have hn0 : (w5.drew.alloc (.cells #[encS n.p, .bool n.d, encS n.x] 58)).heap[w5.heap.size]? = some (.cells #[encS n.p, .bool n.d, encS n.x] 58 (0, 0)) := heap_alloc_new w5.drew _
  have hz0 : (w5.drew.alloc (.cells #[encS n.p, .bool n.d, encS n.x] 58)).heap.size = w5.heap.size + 1 := by simp
  generalize w5.drew.alloc (.cells #[encS n.p, .bool n.d, encS n.x] 58) = w6 at *
  obtain ⟨o6, ho6⟩ : ∃ o6, (Obj.cells #[.slice A l1.length c1, .slice (some ⟨w5.heap.size, 0, none⟩) 1 1, .slice D l3.length c3] 23) = o6 := ⟨_, rfl⟩
  rw [ho6]
  have hb6 : Below w6.heap.size w6 (w6.alloc o6) := (Below.refl _ _).alloc (Nat.le_refl _) _
  have hb7 := hb.trans (hb6.mono hb.size)
  have hk : (w6.alloc o6).heap[w5.heap.size + 1]? = some (.cells #[.slice A l1.length c1, .slice (some ⟨w5.heap.size, 0, none⟩) 1 1, .slice D l3.length c3] 23 (0, 0)) := by
    have := heap_alloc_new w6 o6
    rw [hz0] at this
    rw [this, ← ho6]
  have hn1 := heap_below' hn0 hb6
  have hsz : (w6.alloc o6).heap.size = w5.heap.size + 2 := by simp [hz0]
  generalize w6.alloc o6 = w7 at *
  have hS : SlicesP w7 (w5.heap.size + 1) 0 ss := fun k hk' => by
    subst hss
    match k, hk' with
    | 0, _ => exact ⟨by simp [World.cell?, hk], h1.below hb7⟩
    | 1, _ =>
      refine ⟨by simp [World.cell?, hk], fun j hj => ?_⟩
      obtain rfl : j = 0 := by simpa using hj
      exact ⟨w5.heap.size, 0, rfl, trivial, by simp [World.cell?, hn1], by simp [World.cell?, hn1], by simp [World.cell?, hn1]⟩
    | 2, _ => exact ⟨by simp [World.cell?, hk], h3.below hb7⟩
  have cJ := joined_any (w5.heap.size + 1) 0 3 ss w7 hS (by rw [hss]; simp) (by rw [hall]; exact ht) (by rw [hall]; exact hz)
  rw [hall, show ss.length = 3 by rw [hss]; rfl] at cJ
  refine cJ.mono ?_
  rintro e w' ⟨a, c', rfl, hO, hb8⟩
  exact ⟨a, c', rfl, own_down hO (by omega), hb7.trans (hb8.mono (by omega))⟩
set_option maxRecDepth 100000 in
set_option maxHeartbeats 16000000 in
theorem writtenFn (g0 : Nat) (eg0 : ∀ args w, (callFunc g0 args).run Tryz.prog w = .ok (.enter g0 args) w) (k : List UInt8 → List UInt8) (hk : ∀ old W, Calls Tryz.prog g0 #[encS old] W fun e w' => e = .returned (encS (k old)) ∧ W = w') (hkl : ∀ old, (k old).length ≤ old.length)
    (A : Option Addr) (c : Nat) (t : List ND) (P x : List UInt8) (tb kb db ab N : Nat) (w0 W : World) (hN : N ≤ ab) (hne : tb ≠ ab ∧ db ≠ ab)
    (h1 : W.heap[tb]? = some (.cells #[.slice A t.length c] 23 (0, 0))) (h2 : W.heap[kb]? = some (.cells #[.func (.func g0) #[] #[]] 59 (0, 0))) (h3 : W.heap[db]? = some (.cells #[encS x] 9 (0, 0))) (h4 : W.heap[ab]? = some (.cells #[.slice none 0 0] 23 (0, 0)))
    (hB : Below N w0 W) (hT : NodesP W (fun _ => True) A t) (hok : OkT t) (hz : SizeT t) (hcap : t.length ≤ c) (hPp : pathL P = P) (hP0 : P ≠ []) (hPl : P.length ≤ 274877906944) (hx : x.length ≤ 137438953472) :
    Calls Tryz.prog 282 #[.agg #[encS P, .int .i64 (whereN t P), .int .i64 (kindL t P)], .pointer (some ⟨tb, 0, none⟩), .pointer (some ⟨kb, 0, none⟩), .pointer (some ⟨db, 0, none⟩), .pointer (some ⟨ab, 0, none⟩)] W (AtPost (ClosR N ab w0 (writtenQ t P (k (oldL t P) ++ x)))) := by
  have hNW : N ≤ W.heap.size := by have := lt_of_block h4; omega
  have h256 := hok.1
  obtain ⟨W1, hW1⟩ : ∃ W1, W.alloc (.cells #[encS P, .int .i64 (whereN t P), .int .i64 (kindL t P)] 207) = W1 := ⟨_, rfl⟩
  have hal : Below W.heap.size W W1 := by rw [← hW1]; exact (Below.refl _ _).alloc (Nat.le_refl _) _
  have hsp : W1.heap[W.heap.size]? = some (.cells #[encS P, .int .i64 (whereN t P), .int .i64 (kindL t P)] 207 (0, 0)) := by rw [← hW1]; exact heap_alloc_new _ _
  have g1 := heap_below' h1 hal; have g2 := heap_below' h2 hal; have g3 := heap_below' h3 hal; have g4 := heap_below' h4 hal
  have hT1 := hT.below hal
  have hB1 := hB.trans (hal.mono hNW)
  have hsbne : W.heap.size ≠ ab := by have := lt_of_block h4; omega
  have hN1 : N ≤ W1.heap.size := Nat.le_trans hNW hal.size
  have x0 : W1.cell? ⟨W.heap.size, 0, none⟩ = some (encS P) := by simp [World.cell?, hsp]
  have x1 : W1.cell? ⟨W.heap.size, 1, none⟩ = some (.int .i64 (whereN t P)) := by simp [World.cell?, hsp]
  have x2 : W1.cell? ⟨W.heap.size, 2, none⟩ = some (.int .i64 (kindL t P)) := by simp [World.cell?, hsp]
  have y1 := cell_of_one g1; have y2 := cell_of_one g2; have y3 := cell_of_one g3
  by_cases hK : kindL t P = 2
  · have HQ : Hid (writtenQ t P (k (oldL t P) ++ x) = ([], 15)) := hid (by unfold writtenQ; rw [if_pos hK])
    rw [hK] at x2 hW1 ⊢
    have HF := hid (And.intro g4 hB1)
    clear hT hT1 hok hz hK g1 g2 g3 g4 h1 h2 h3 h4 hsp hB hB1 y1 y2 y3 x0 x1 hk hkl
    go_enter Tryz.func282, Tryz.ntmps282
    go_wp2
    go_ret
    exact closR_nil HQ.out HF.out.1 HF.out.2
  have h47 : P ≠ [47] := fun e => hK (by rw [e]; exact kind_root t)
  have HRH : Hid (∀ more, roomR t P (kindL t P) more = if roomL t P ≠ 0 then roomL t P else if (kindL t P = 0 ∧ 256 ≤ t.length) ∨ 65536 < (sumX t : Int) + more then 17 else 0) := hid (fun more => room_home hPp h47 (kindL t P) more)
  have HFR := hid (fits_room (y := k (oldL t P) ++ x) hok hK)
  have HWP := hid (with_parts (y := k (oldL t P) ++ x) hok hK)
  have HBL := hid (behind_le hok hK)
  have hwl := where_le t P
  have HQ : Hid (writtenQ t P (k (oldL t P) ++ x) = if roomL t P ≠ 0 then ([], roomL t P) else fitsQ (withL t ⟨P, false, k (oldL t P) ++ x⟩)) := hid (by unfold writtenQ; rw [if_neg hK])
  have cR := fun more W2 (hb : Below W1.heap.size W1 W2) hm => room_any A c t P (whereN t P) (kindL t P) more W2 (hT1.below hb) hok hz hP0 (by omega) hm
  have hko := hkl (oldL t P)
  have cK := fun W2 => hk (oldL t P) W2
  have hjN : ∀ W2, Below W1.heap.size W1 W2 → NodesP W2 (fun _ => True) A (t.take (whereN t P)) ∧ NodesP W2 (fun _ => True) (if c = behindN t P then A else A.map (·.add (behindN t P * 3))) (t.drop (behindN t P)) := fun W2 hb => ⟨nodes_take (hT1.below hb) _, nodes_drop (hT1.below hb) hcap⟩
  rcases old_cases hok.asc hK with ⟨hK0, hf, ho⟩ | ⟨hK1, hw, hf, ho⟩
  · rw [ho] at HQ HFR HWP cK hko ⊢
    rw [hK0] at HRH HFR cR x2 hW1 hsp ⊢
    have hbe : behindN t P = whereN t P := by unfold behindN; rw [hK0]; rfl
    rw [hbe] at HWP hjN HBL
    simp only [List.length_nil] at hko
    have hko : k [] = [] := List.eq_nil_of_length_eq_zero (by omega)
    rw [hko] at HQ HFR HWP cK ⊢
    rw [List.nil_append] at HQ HFR HWP ⊢
    clear hK hK0 hf ho hbe hT hT1 h1 h2 h3 h4 hk hkl
    go_enter Tryz.func282, Tryz.ntmps282
    go_wp2_with fail
    go_quiet (fail)
    go_wp2_with (go_at_fn g0; refine (cK _).mono ?_; rintro e w2 ⟨rfl, rfl⟩)
    refine (cR (x.length : Int) _ (below_drewN (Below.refl _ _) _) (by omega)).mono ?_
    rintro e w5 ⟨rfl, hb5'⟩
    have hb5 : Below W1.heap.size W1 w5 := (below_drewN (Below.refl _ W1) _).trans hb5'
    have HR := hid (HRH.out (x.length : Int))
    have g5 := heap_below' g4 hb5
    have hB5 := hB1.trans (hb5.mono hN1)
    by_cases hroom : roomL t P = 0
    rotate_left
    · have HR2 : Hid (roomR t P 0 (x.length : Int) = roomL t P) := hid (by rw [HR.out, if_pos hroom])
      have HQ2 : Hid (writtenQ t P (x) = ([], roomL t P)) := hid (by rw [HQ.out, if_pos hroom])
      have q1 : (roomL t P == 0) = false := by simpa using hroom
      have q2 : (roomL t P != 0) = true := by simpa using hroom
      rw [HR2.out]
      have HF := hid (And.intro g5 hB5)
      generalize roomL t P = RL at *
      clear HR HR2 HQ HRH cR cK hjN hb5 hb5' g5 hB5 g1 g2 g3 g4 y1 y2 y3 x0 x1 x2 hroom hsp hok hz HFR HWP HBL
      go_wp2
      go_ret
      exact closR_nil HQ2.out HF.out.1 HF.out.2
    have HR1 : Hid (roomR t P 0 (x.length : Int) = if 256 ≤ t.length ∨ 65536 < (sumX t : Int) + (x.length : Int) then 17 else 0) := hid (by rw [HR.out, if_neg (by simpa using hroom)]; simp)
    have HQ1 : Hid (writtenQ t P (x) = fitsQ (withL t ⟨P, false, x⟩)) := hid (by rw [HQ.out, if_neg (by simpa using hroom)])
    have hiff : (256 ≤ t.length ∨ 65536 < (sumX t : Int) + (x.length : Int)) ↔ ¬ ((withL t ⟨P, false, x⟩).length ≤ 256 ∧ sumX (withL t ⟨P, false, x⟩) ≤ 65536) := by
      have := HFR.out
      simpa using this
    by_cases hfull : 256 ≤ t.length ∨ 65536 < (sumX t : Int) + (x.length : Int)
    · have HR2 : Hid (roomR t P 0 (x.length : Int) = 17) := hid (by rw [HR1.out, if_pos hfull])
      have HQ2 : Hid (writtenQ t P (x) = ([], 17)) := hid (by
        rw [HQ1.out]
        exact if_neg (hiff.1 hfull))
      rw [HR2.out]
      have HF := hid (And.intro g5 hB5)
      clear HR HR1 HR2 HQ HQ1 HRH cR cK hjN hb5 hb5' g5 hB5 g1 g2 g3 g4 y1 y2 y3 x0 x1 x2 hroom hsp hok hz HFR HWP HBL hfull hiff
      go_wp2
      go_ret
      exact closR_nil HQ2.out HF.out.1 HF.out.2
    have HR2 : Hid (roomR t P 0 (x.length : Int) = 0) := hid (by rw [HR1.out, if_neg hfull])
    have hfit := Classical.not_not.1 (fun h => hfull (hiff.2 h))
    rw [HR2.out]
    have hwz : SizeT (withL t ⟨P, false, x⟩) := fun n hn => by
      rcases withL_mem hn with rfl | h
      · exact ⟨hPl, by show (x).length ≤ _; omega⟩
      · exact hz n h
    have HQ := hid (show writtenQ t P (x) = (withL t ⟨P, false, x⟩, 0) by rw [HQ1.out]; exact if_pos hfit)
    have hlen := hfit.1
    rw [HWP.out] at HQ hlen hwz
    obtain ⟨hj1, hj3⟩ := hjN w5 hb5
    have hJ := joined3 A _ c (c - (whereN t P)) _ _ ⟨P, false, x⟩ w5 hj1 hj3 (by omega) hwz
    obtain ⟨Z, hZ⟩ : ∃ Z, t.take (whereN t P) ++ (⟨P, false, x⟩ :: t.drop (whereN t P)) = Z := ⟨_, rfl⟩
    rw [hZ, List.length_take, Nat.min_eq_left hwl, List.length_drop] at hJ
    rw [hZ] at HQ
    have hbl := HBL.out
    have hcw : whereN t P ≤ c := by omega
    generalize whereN t P = wh at *
    obtain ⟨D, hD⟩ : ∃ D, (if c = wh then A else A.map (·.add (wh * 3))) = D := ⟨_, rfl⟩
    rw [hD] at hJ
    have hS : Cells [(⟨tb, 0, none⟩, .slice A t.length c), (⟨W.heap.size, 1, none⟩, .int .i64 (wh : Int)), (⟨W.heap.size, 0, none⟩, encS P), (⟨db, 0, none⟩, encS x)] w5.drew := fun z hz => by
      rcases List.mem_cons.1 hz with rfl | hz
      · exact (show w5.cell? _ = _ from cell_below hb5 y1)
      rcases List.mem_cons.1 hz with rfl | hz
      · exact (show w5.cell? _ = _ from cell_below hb5 x1)
      rcases List.mem_cons.1 hz with rfl | hz
      · exact (show w5.cell? _ = _ from cell_below hb5 x0)
      rcases List.mem_cons.1 hz with rfl | hz
      · exact (show w5.cell? _ = _ from cell_below hb5 y3)
      · cases hz
    have hfar : ∀ q ∈ [((⟨tb, 0, none⟩ : Addr), Value.slice A t.length c), (⟨W.heap.size, 1, none⟩, .int .i64 (wh : Int)), (⟨W.heap.size, 0, none⟩, encS P), (⟨db, 0, none⟩, encS x)], q.1.block ≠ ab := fun q hq => by
      rcases List.mem_cons.1 hq with rfl | hq
      · exact hne.1
      rcases List.mem_cons.1 hq with rfl | hq
      · exact hsbne
      rcases List.mem_cons.1 hq with rfl | hq
      · exact hsbne
      rcases List.mem_cons.1 hq with rfl | hq
      · exact hne.2
      · cases hq
    have hlt5 := lt_of_block g5
    have hfar2 : ∀ j, w5.heap.size ≤ j → j ≠ ab := fun j hj => by omega
    clear HR HR1 HR2 HQ1 HRH cR cK hjN hb5' hB5 g1 g2 g3 g4 y1 y2 y3 x0 x1 x2 hroom hsp hok hz HFR HWP HBL hfull hiff hZ hj1 hj3 hwz hlen hfit
    have hadd : (⟨#[]⟩ : ByteArray) ++ ⟨x.toArray⟩ = ⟨x.toArray⟩ := bytes_app [] x
    have hxm : x.length ≤ 9223372036854775807 := by omega
    go_wp2_with fail
    refine wp_region_held_drew (S := Cells [(⟨tb, 0, none⟩, .slice A t.length c), (⟨W.heap.size, 1, none⟩, .int .i64 (wh : Int)), (⟨W.heap.size, 0, none⟩, encS P), (⟨db, 0, none⟩, encS x)]) (by kernel_rfl) hS (fun _ => ?_)
    refine takeH (i := 0) (d := some 45) (v := .slice A t.length c) rfl rfl (by kernel_rfl) (by kernel_rfl) (by kernel_rfl) (fun _ _ _ h => h) (Or.inl ⟨by rfl, fun w' hS' => by have s0 := hS' _ (.head _); dsimp only at s0; go_simp⟩) hS ?_
    try simp only [Act.put, List.setIfInBounds_toArray, List.set_cons_zero, List.set_cons_succ]
    refine takeH (i := 1) (d := some 46) (v := .pointer (some ⟨W.heap.size, 1, none⟩)) rfl rfl (by kernel_rfl) (by kernel_rfl) (by kernel_rfl) (fun _ _ _ h => h) (Or.inl ⟨by rfl, fun w' _ => by go_simp⟩) hS ?_
    try simp only [Act.put, List.setIfInBounds_toArray, List.set_cons_zero, List.set_cons_succ]
    refine takeH (i := 2) (d := some 47) (v := .int .i64 (wh : Int)) rfl rfl (by kernel_rfl) (by kernel_rfl) (by kernel_rfl) (fun _ _ _ h => h) (Or.inl ⟨by rfl, fun w' hS' => by have s1 := hS' _ (.tail _ (.head _)); dsimp only at s1; go_simp⟩) hS ?_
    try simp only [Act.put, List.setIfInBounds_toArray, List.set_cons_zero, List.set_cons_succ]
    refine takeH (i := 3) (d := some 48) (v := .slice A wh c) rfl rfl (by kernel_rfl) (by kernel_rfl) (by kernel_rfl) (fun _ _ _ h => h) (Or.inl ⟨by rfl, fun w' _ => by go_simp⟩) hS ?_
    try simp only [Act.put, List.setIfInBounds_toArray, List.set_cons_zero, List.set_cons_succ]
    refine takeH (i := 4) (d := some 49) (v := .pointer (some ⟨W.heap.size, 0, none⟩)) rfl rfl (by kernel_rfl) (by kernel_rfl) (by kernel_rfl) (fun _ _ _ h => h) (Or.inl ⟨by rfl, fun w' _ => by go_simp⟩) hS ?_
    try simp only [Act.put, List.setIfInBounds_toArray, List.set_cons_zero, List.set_cons_succ]
    refine takeH (i := 5) (d := some 50) (v := encS P) rfl rfl (by kernel_rfl) (by kernel_rfl) (by kernel_rfl) (fun _ _ _ h => h) (Or.inl ⟨by rfl, fun w' hS' => by have s2 := hS' _ (.tail _ (.tail _ (.head _))); dsimp only at s2; go_simp⟩) hS ?_
    try simp only [Act.put, List.setIfInBounds_toArray, List.set_cons_zero, List.set_cons_succ]
    refine takeH (i := 6) (d := some 51) (v := encS []) rfl rfl (by kernel_rfl) (by kernel_rfl) (by kernel_rfl) (fun _ _ _ h => h) (Or.inl ⟨by rfl, fun w' _ => by go_simp⟩) hS ?_
    try simp only [Act.put, List.setIfInBounds_toArray, List.set_cons_zero, List.set_cons_succ]
    refine takeH (i := 7) (d := some 52) (v := encS x) rfl rfl (by kernel_rfl) (by kernel_rfl) (by kernel_rfl) (fun _ _ _ h => h) (Or.inl ⟨by rfl, fun w' hS' => by have s3 := hS' _ (.tail _ (.tail _ (.tail _ (.head _)))); dsimp only at s3; go_simp⟩) hS ?_
    try simp only [Act.put, List.setIfInBounds_toArray, List.set_cons_zero, List.set_cons_succ]
    refine takeH (i := 8) (d := some 53) (v := encS x) rfl rfl (by kernel_rfl) (by kernel_rfl) (by kernel_rfl) (fun _ _ _ h => h) (Or.inl ⟨by rfl, fun w' _ => by go_simp⟩) hS ?_
    try simp only [Act.put, List.setIfInBounds_toArray, List.set_cons_zero, List.set_cons_succ]
    refine takeH (i := 9) (d := some 54) (v := .agg #[encS P, .bool false, encS x]) rfl rfl (by kernel_rfl) (by kernel_rfl) (by kernel_rfl) (fun _ _ _ h => h) (Or.inl ⟨by rfl, fun w' _ => by go_simp⟩) hS ?_
    try simp only [Act.put, List.setIfInBounds_toArray, List.set_cons_zero, List.set_cons_succ]
    refine takeH (i := 11) (d := some 56) (v := .slice A t.length c) rfl rfl (by kernel_rfl) (by kernel_rfl) (by kernel_rfl) (fun _ _ _ h => h) (Or.inl ⟨by rfl, fun w' hS' => by have s0 := hS' _ (.head _); dsimp only at s0; go_simp⟩) hS ?_
    try simp only [Act.put, List.setIfInBounds_toArray, List.set_cons_zero, List.set_cons_succ]
    refine takeH (i := 12) (d := some 57) (v := .int .i64 (wh : Int)) rfl rfl (by kernel_rfl) (by kernel_rfl) (by kernel_rfl) (fun _ _ _ h => h) (Or.inl ⟨by rfl, fun w' _ => by go_simp⟩) hS ?_
    try simp only [Act.put, List.setIfInBounds_toArray, List.set_cons_zero, List.set_cons_succ]
    refine takeH (i := 13) (d := some 58) (v := .slice D (t.length - wh) (c - wh)) rfl rfl (by kernel_rfl) (by kernel_rfl) (by kernel_rfl) (fun _ _ _ h => h) (Or.inl ⟨by rfl, fun w' _ => by go_simp⟩) hS ?_
    try simp only [Act.put, List.setIfInBounds_toArray, List.set_cons_zero, List.set_cons_succ]
    clear hD
    refine wpAnyH_ready (rs := [10]) (by kernel_rfl) (by simp) (AllReadyH.cons rfl (fun K hK => ?_) AllReadyH.nil)
    go_simp
    refine hK.out _ _ (hS.below ((Below.refl _ _).alloc (Nat.le_refl _) _)) (fun _ => ?_)
    clear hK K
    try simp only [Act.put, List.setIfInBounds_toArray, List.set_cons_zero, List.set_cons_succ]
    refine wpAnyH_ready (rs := [14]) (by kernel_rfl) (by simp) (AllReadyH.cons rfl (fun K hK => ?_) AllReadyH.nil)
    go_simp
    refine hK.out _ _ ((hS.below ((Below.refl _ _).alloc (Nat.le_refl _) (.cells #[encS P, .bool false, encS x] 58))).below ((Below.refl _ _).alloc (Nat.le_refl _) _)) (fun _ => ?_)
    clear hK K
    try simp only [Act.put, List.setIfInBounds_toArray, List.set_cons_zero, List.set_cons_succ]
    refine wpAnyH_ready (rs := [15]) (by kernel_rfl) (by simp) (AllReadyH.cons rfl (fun K hK => ?_) AllReadyH.nil)
    go_simp
    go_at_call 281
    refine hJ.mono ?_
    rintro e w9 ⟨a, c9, rfl, hO9, hb9⟩
    have hS9 := (show Cells _ w5 from hS).below hb9
    have k4 := heap_below' g5 hb9
    have e4 := cell_of_one k4; have f4 := free_of_one k4
    go_wp2_with fail
    refine hK.out _ _ hS9 (fun _ => ?_)
    clear hK K
    try simp only [Act.put, List.setIfInBounds_toArray, List.set_cons_zero, List.set_cons_succ]
    refine wpAnyH_ready (rs := [16]) (by kernel_rfl) (by simp) (AllReadyH.cons rfl (fun K hK => ?_) AllReadyH.nil)
    go_simp
    refine hK.out _ _ (hS9.set hfar _) (fun _ => ?_)
    clear hK K
    try simp only [Act.put, List.setIfInBounds_toArray, List.set_cons_zero, List.set_cons_succ]
    refine wpAnyH_done (by kernel_rfl) ?_ _
    have HO := hid (show AtPost (ClosR N ab w0 (Z, 0)) (.returned (.int .i64 0)) (w9.setCell ⟨ab, 0, none⟩ (.slice a Z.length c9)) from ⟨0, rfl, rfl, a, c9, one_setCell k4, own_down (own_turn hO9 (fun j hj _ => Below.heap_setCell _ _ _ _ (hfar2 j hj))) (Nat.le_trans hN1 hb5.size), (hB1.trans ((hb5.mono hN1).trans (hb9.mono (Nat.le_trans hN1 hb5.size)))).setCell hN _⟩)
    clear hS hS9 hJ hO9 hb9 k4 e4 f4 hfar2
    go_wp2
    go_ret
    show AtPost (ClosR N ab w0 (writtenQ t P (x))) _ _
    rw [HQ.out]
    exact HO.out
  · obtain ⟨g, o, hA, -, -, -, c2⟩ := hT1 (whereN t P) hw
    have HA := hid hA
    have hnl := (okT_x hok (List.getElem_mem hw))
    generalize hnx : t[whereN t P].x = nx at *
    have HNX := hid hnx
    rw [ho] at HQ HFR HWP cK hko ⊢
    rw [hK1] at HRH HFR cR x2 hW1 hsp ⊢
    have hbe : behindN t P = whereN t P + 1 := by unfold behindN; rw [hK1]; rfl
    rw [hbe] at HWP hjN HBL
    have HW2 := hid hw
    clear hK hK1 hf ho hbe hT hT1 h1 h2 h3 h4 hk hkl hA hnx
    go_enter Tryz.func282, Tryz.ntmps282
    go_wp2_with fail
    go_quiet (fail)
    go_wp2_with fail
    have hA := HA.out
    go_quiet (fail)
    clear hA c2
    go_wp2_with (go_at_fn g0; refine (cK _).mono ?_; rintro e w2 ⟨rfl, rfl⟩)
    refine (cR (((k nx).length : Int) + (x.length : Int) - (nx.length : Int)) _ (below_drewN (Below.refl _ _) _) (by omega)).mono ?_
    rintro e w5 ⟨rfl, hb5'⟩
    have hb5 : Below W1.heap.size W1 w5 := (below_drewN (Below.refl _ W1) _).trans hb5'
    have HR := hid (HRH.out (((k nx).length : Int) + (x.length : Int) - (nx.length : Int)))
    have g5 := heap_below' g4 hb5
    have hB5 := hB1.trans (hb5.mono hN1)
    by_cases hroom : roomL t P = 0
    rotate_left
    · have HR2 : Hid (roomR t P 1 (((k nx).length : Int) + (x.length : Int) - (nx.length : Int)) = roomL t P) := hid (by rw [HR.out, if_pos hroom])
      have HQ2 : Hid (writtenQ t P (k nx ++ x) = ([], roomL t P)) := hid (by rw [HQ.out, if_pos hroom])
      have q1 : (roomL t P == 0) = false := by simpa using hroom
      have q2 : (roomL t P != 0) = true := by simpa using hroom
      rw [HR2.out]
      have HF := hid (And.intro g5 hB5)
      generalize roomL t P = RL at *
      clear HR HR2 HQ HRH cR cK hjN hb5 hb5' g5 hB5 g1 g2 g3 g4 y1 y2 y3 x0 x1 x2 hroom hsp hok hz HFR HWP HBL
      go_wp2
      go_ret
      exact closR_nil HQ2.out HF.out.1 HF.out.2
    have HR1 : Hid (roomR t P 1 (((k nx).length : Int) + (x.length : Int) - (nx.length : Int)) = if 65536 < (sumX t : Int) + (((k nx).length : Int) + (x.length : Int) - (nx.length : Int)) then 17 else 0) := hid (by rw [HR.out, if_neg (by simpa using hroom)]; simp)
    have HQ1 : Hid (writtenQ t P (k nx ++ x) = fitsQ (withL t ⟨P, false, k nx ++ x⟩)) := hid (by rw [HQ.out, if_neg (by simpa using hroom)])
    have hiff : (65536 < (sumX t : Int) + (((k nx).length : Int) + (x.length : Int) - (nx.length : Int))) ↔ ¬ ((withL t ⟨P, false, k nx ++ x⟩).length ≤ 256 ∧ sumX (withL t ⟨P, false, k nx ++ x⟩) ≤ 65536) := by
      have := HFR.out
      rw [List.length_append, Int.natCast_add] at this
      simpa using this
    by_cases hfull : 65536 < (sumX t : Int) + (((k nx).length : Int) + (x.length : Int) - (nx.length : Int))
    · have HR2 : Hid (roomR t P 1 (((k nx).length : Int) + (x.length : Int) - (nx.length : Int)) = 17) := hid (by rw [HR1.out, if_pos hfull])
      have HQ2 : Hid (writtenQ t P (k nx ++ x) = ([], 17)) := hid (by
        rw [HQ1.out]
        exact if_neg (hiff.1 hfull))
      rw [HR2.out]
      have HF := hid (And.intro g5 hB5)
      clear HR HR1 HR2 HQ HQ1 HRH cR cK hjN hb5 hb5' g5 hB5 g1 g2 g3 g4 y1 y2 y3 x0 x1 x2 hroom hsp hok hz HFR HWP HBL hfull hiff
      go_wp2
      go_ret
      exact closR_nil HQ2.out HF.out.1 HF.out.2
    have HR2 : Hid (roomR t P 1 (((k nx).length : Int) + (x.length : Int) - (nx.length : Int)) = 0) := hid (by rw [HR1.out, if_neg hfull])
    have hfit := Classical.not_not.1 (fun h => hfull (hiff.2 h))
    rw [HR2.out]
    have hwz : SizeT (withL t ⟨P, false, k nx ++ x⟩) := fun n hn => by
      rcases withL_mem hn with rfl | h
      · exact ⟨hPl, by show (k nx ++ x).length ≤ _; simp; omega⟩
      · exact hz n h
    have HQ := hid (show writtenQ t P (k nx ++ x) = (withL t ⟨P, false, k nx ++ x⟩, 0) by rw [HQ1.out]; exact if_pos hfit)
    have hlen := hfit.1
    rw [HWP.out] at HQ hlen hwz
    obtain ⟨hj1, hj3⟩ := hjN w5 hb5
    have hJ := joined3 A _ c (c - (whereN t P + 1)) _ _ ⟨P, false, k nx ++ x⟩ w5 hj1 hj3 (by omega) hwz
    obtain ⟨Z, hZ⟩ : ∃ Z, t.take (whereN t P) ++ (⟨P, false, k nx ++ x⟩ :: t.drop (whereN t P + 1)) = Z := ⟨_, rfl⟩
    rw [hZ, List.length_take, Nat.min_eq_left hwl, List.length_drop] at hJ
    rw [hZ] at HQ
    have hbl := HBL.out
    have hcw : whereN t P ≤ c := by omega
    generalize whereN t P = wh at *
    obtain ⟨D, hD⟩ : ∃ D, (if c = wh + 1 then A else A.map (·.add ((wh + 1) * 3))) = D := ⟨_, rfl⟩
    rw [hD] at hJ
    have hS : Cells [(⟨tb, 0, none⟩, .slice A t.length c), (⟨W.heap.size, 1, none⟩, .int .i64 (wh : Int)), (⟨W.heap.size, 0, none⟩, encS P), (⟨db, 0, none⟩, encS x)] w5.drew := fun z hz => by
      rcases List.mem_cons.1 hz with rfl | hz
      · exact (show w5.cell? _ = _ from cell_below hb5 y1)
      rcases List.mem_cons.1 hz with rfl | hz
      · exact (show w5.cell? _ = _ from cell_below hb5 x1)
      rcases List.mem_cons.1 hz with rfl | hz
      · exact (show w5.cell? _ = _ from cell_below hb5 x0)
      rcases List.mem_cons.1 hz with rfl | hz
      · exact (show w5.cell? _ = _ from cell_below hb5 y3)
      · cases hz
    have hfar : ∀ q ∈ [((⟨tb, 0, none⟩ : Addr), Value.slice A t.length c), (⟨W.heap.size, 1, none⟩, .int .i64 (wh : Int)), (⟨W.heap.size, 0, none⟩, encS P), (⟨db, 0, none⟩, encS x)], q.1.block ≠ ab := fun q hq => by
      rcases List.mem_cons.1 hq with rfl | hq
      · exact hne.1
      rcases List.mem_cons.1 hq with rfl | hq
      · exact hsbne
      rcases List.mem_cons.1 hq with rfl | hq
      · exact hsbne
      rcases List.mem_cons.1 hq with rfl | hq
      · exact hne.2
      · cases hq
    have hlt5 := lt_of_block g5
    have hfar2 : ∀ j, w5.heap.size ≤ j → j ≠ ab := fun j hj => by omega
    clear HR HR1 HR2 HQ1 HRH cR cK hjN hb5' hB5 g1 g2 g3 g4 y1 y2 y3 x0 x1 x2 hroom hsp hok hz HFR HWP HBL hfull hiff hZ hj1 hj3 hwz hlen hfit
    have hadd : (⟨(k nx).toArray⟩ : ByteArray) ++ ⟨x.toArray⟩ = ⟨(k nx ++ x).toArray⟩ := bytes_app _ _
    have hxm : (k nx).length + x.length ≤ 9223372036854775807 := by omega
    have hb1 : (wh : Int) + 1 ≤ (t.length : Int) := by omega
    have hb0 : 0 ≤ (wh : Int) + 1 := by omega
    have hbn : ((wh : Int) + 1).toNat = wh + 1 := by omega
    have hwi : IntKind.i64.wrap ((wh : Int) + 1) = (wh : Int) + 1 := IntWalk.i64_in _ (by omega)
    go_wp2_with fail
    refine wp_region_held_drew (S := Cells [(⟨tb, 0, none⟩, .slice A t.length c), (⟨W.heap.size, 1, none⟩, .int .i64 (wh : Int)), (⟨W.heap.size, 0, none⟩, encS P), (⟨db, 0, none⟩, encS x)]) (by kernel_rfl) hS (fun _ => ?_)
    refine takeH (i := 0) (d := some 45) (v := .slice A t.length c) rfl rfl (by kernel_rfl) (by kernel_rfl) (by kernel_rfl) (fun _ _ _ h => h) (Or.inl ⟨by rfl, fun w' hS' => by have s0 := hS' _ (.head _); dsimp only at s0; go_simp⟩) hS ?_
    try simp only [Act.put, List.setIfInBounds_toArray, List.set_cons_zero, List.set_cons_succ]
    refine takeH (i := 1) (d := some 46) (v := .pointer (some ⟨W.heap.size, 1, none⟩)) rfl rfl (by kernel_rfl) (by kernel_rfl) (by kernel_rfl) (fun _ _ _ h => h) (Or.inl ⟨by rfl, fun w' _ => by go_simp⟩) hS ?_
    try simp only [Act.put, List.setIfInBounds_toArray, List.set_cons_zero, List.set_cons_succ]
    refine takeH (i := 2) (d := some 47) (v := .int .i64 (wh : Int)) rfl rfl (by kernel_rfl) (by kernel_rfl) (by kernel_rfl) (fun _ _ _ h => h) (Or.inl ⟨by rfl, fun w' hS' => by have s1 := hS' _ (.tail _ (.head _)); dsimp only at s1; go_simp⟩) hS ?_
    try simp only [Act.put, List.setIfInBounds_toArray, List.set_cons_zero, List.set_cons_succ]
    refine takeH (i := 3) (d := some 48) (v := .slice A wh c) rfl rfl (by kernel_rfl) (by kernel_rfl) (by kernel_rfl) (fun _ _ _ h => h) (Or.inl ⟨by rfl, fun w' _ => by go_simp⟩) hS ?_
    try simp only [Act.put, List.setIfInBounds_toArray, List.set_cons_zero, List.set_cons_succ]
    refine takeH (i := 4) (d := some 49) (v := .pointer (some ⟨W.heap.size, 0, none⟩)) rfl rfl (by kernel_rfl) (by kernel_rfl) (by kernel_rfl) (fun _ _ _ h => h) (Or.inl ⟨by rfl, fun w' _ => by go_simp⟩) hS ?_
    try simp only [Act.put, List.setIfInBounds_toArray, List.set_cons_zero, List.set_cons_succ]
    refine takeH (i := 5) (d := some 50) (v := encS P) rfl rfl (by kernel_rfl) (by kernel_rfl) (by kernel_rfl) (fun _ _ _ h => h) (Or.inl ⟨by rfl, fun w' hS' => by have s2 := hS' _ (.tail _ (.tail _ (.head _))); dsimp only at s2; go_simp⟩) hS ?_
    try simp only [Act.put, List.setIfInBounds_toArray, List.set_cons_zero, List.set_cons_succ]
    refine takeH (i := 6) (d := some 51) (v := encS (k nx)) rfl rfl (by kernel_rfl) (by kernel_rfl) (by kernel_rfl) (fun _ _ _ h => h) (Or.inl ⟨by rfl, fun w' _ => by go_simp⟩) hS ?_
    try simp only [Act.put, List.setIfInBounds_toArray, List.set_cons_zero, List.set_cons_succ]
    refine takeH (i := 7) (d := some 52) (v := encS x) rfl rfl (by kernel_rfl) (by kernel_rfl) (by kernel_rfl) (fun _ _ _ h => h) (Or.inl ⟨by rfl, fun w' hS' => by have s3 := hS' _ (.tail _ (.tail _ (.tail _ (.head _)))); dsimp only at s3; go_simp⟩) hS ?_
    try simp only [Act.put, List.setIfInBounds_toArray, List.set_cons_zero, List.set_cons_succ]
    refine takeH (i := 8) (d := some 53) (v := encS (k nx ++ x)) rfl rfl (by kernel_rfl) (by kernel_rfl) (by kernel_rfl) (fun _ _ _ h => h) (Or.inl ⟨by rfl, fun w' _ => by go_simp⟩) hS ?_
    try simp only [Act.put, List.setIfInBounds_toArray, List.set_cons_zero, List.set_cons_succ]
    refine takeH (i := 9) (d := some 54) (v := .agg #[encS P, .bool false, encS (k nx ++ x)]) rfl rfl (by kernel_rfl) (by kernel_rfl) (by kernel_rfl) (fun _ _ _ h => h) (Or.inl ⟨by rfl, fun w' _ => by go_simp⟩) hS ?_
    try simp only [Act.put, List.setIfInBounds_toArray, List.set_cons_zero, List.set_cons_succ]
    refine takeH (i := 11) (d := some 56) (v := .slice A t.length c) rfl rfl (by kernel_rfl) (by kernel_rfl) (by kernel_rfl) (fun _ _ _ h => h) (Or.inl ⟨by rfl, fun w' hS' => by have s0 := hS' _ (.head _); dsimp only at s0; go_simp⟩) hS ?_
    try simp only [Act.put, List.setIfInBounds_toArray, List.set_cons_zero, List.set_cons_succ]
    refine takeH (i := 12) (d := some 57) (v := .int .i64 ((wh : Int) + 1)) rfl rfl (by kernel_rfl) (by kernel_rfl) (by kernel_rfl) (fun _ _ _ h => h) (Or.inl ⟨by rfl, fun w' _ => by go_simp⟩) hS ?_
    try simp only [Act.put, List.setIfInBounds_toArray, List.set_cons_zero, List.set_cons_succ]
    refine takeH (i := 13) (d := some 58) (v := .slice D (t.length - (wh + 1)) (c - (wh + 1))) rfl rfl (by kernel_rfl) (by kernel_rfl) (by kernel_rfl) (fun _ _ _ h => h) (Or.inl ⟨by rfl, fun w' _ => by go_simp⟩) hS ?_
    try simp only [Act.put, List.setIfInBounds_toArray, List.set_cons_zero, List.set_cons_succ]
    clear hD
    refine wpAnyH_ready (rs := [10]) (by kernel_rfl) (by simp) (AllReadyH.cons rfl (fun K hK => ?_) AllReadyH.nil)
    go_simp
    refine hK.out _ _ (hS.below ((Below.refl _ _).alloc (Nat.le_refl _) _)) (fun _ => ?_)
    clear hK K
    try simp only [Act.put, List.setIfInBounds_toArray, List.set_cons_zero, List.set_cons_succ]
    refine wpAnyH_ready (rs := [14]) (by kernel_rfl) (by simp) (AllReadyH.cons rfl (fun K hK => ?_) AllReadyH.nil)
    go_simp
    refine hK.out _ _ ((hS.below ((Below.refl _ _).alloc (Nat.le_refl _) (.cells #[encS P, .bool false, encS (k nx ++ x)] 58))).below ((Below.refl _ _).alloc (Nat.le_refl _) _)) (fun _ => ?_)
    clear hK K
    try simp only [Act.put, List.setIfInBounds_toArray, List.set_cons_zero, List.set_cons_succ]
    refine wpAnyH_ready (rs := [15]) (by kernel_rfl) (by simp) (AllReadyH.cons rfl (fun K hK => ?_) AllReadyH.nil)
    go_simp
    go_at_call 281
    refine hJ.mono ?_
    rintro e w9 ⟨a, c9, rfl, hO9, hb9⟩
    have hS9 := (show Cells _ w5 from hS).below hb9
    have k4 := heap_below' g5 hb9
    have e4 := cell_of_one k4; have f4 := free_of_one k4
    go_wp2_with fail
    refine hK.out _ _ hS9 (fun _ => ?_)
    clear hK K
    try simp only [Act.put, List.setIfInBounds_toArray, List.set_cons_zero, List.set_cons_succ]
    refine wpAnyH_ready (rs := [16]) (by kernel_rfl) (by simp) (AllReadyH.cons rfl (fun K hK => ?_) AllReadyH.nil)
    go_simp
    refine hK.out _ _ (hS9.set hfar _) (fun _ => ?_)
    clear hK K
    try simp only [Act.put, List.setIfInBounds_toArray, List.set_cons_zero, List.set_cons_succ]
    refine wpAnyH_done (by kernel_rfl) ?_ _
    have HO := hid (show AtPost (ClosR N ab w0 (Z, 0)) (.returned (.int .i64 0)) (w9.setCell ⟨ab, 0, none⟩ (.slice a Z.length c9)) from ⟨0, rfl, rfl, a, c9, one_setCell k4, own_down (own_turn hO9 (fun j hj _ => Below.heap_setCell _ _ _ _ (hfar2 j hj))) (Nat.le_trans hN1 hb5.size), (hB1.trans ((hb5.mono hN1).trans (hb9.mono (Nat.le_trans hN1 hb5.size)))).setCell hN _⟩)
    clear hS hS9 hJ hO9 hb9 k4 e4 f4 hfar2
    go_wp2
    go_ret
    show AtPost (ClosR N ab w0 (writtenQ t P (k nx ++ x))) _ _
    rw [HQ.out]
    exact HO.out
end Go.Proofs.YtgbibgppjicbgaaGreatDoor

namespace Go.Proofs.YtgbibgppjicbgaaGreatDoor
open Go.RowKit
open Go.Lib (hid)
theorem four_boxes (w : World) (o0 o1 o2 o3 : Obj) {W : World} (hW : (((w.alloc o0).alloc o1).alloc o2).alloc o3 = W) :
    W.heap[w.heap.size]? = some o0 ∧ W.heap[w.heap.size + 1]? = some o1 ∧ W.heap[w.heap.size + 2]? = some o2 ∧ W.heap[w.heap.size + 3]? = some o3 ∧ W.heap.size = w.heap.size + 4 ∧ Below w.heap.size w W := by
  subst hW
  refine ⟨?_, ?_, ?_, ?_, by simp, ((((Below.refl _ _).alloc (Nat.le_refl _) _).alloc (by simp) _).alloc (by simp; omega) _).alloc (by simp; omega) _⟩
  · exact (Below.heap_alloc _ _ _ (by simp; omega)).trans ((Below.heap_alloc _ _ _ (by simp; omega)).trans ((Below.heap_alloc _ _ _ (by simp)).trans (heap_alloc_new w _)))
  · have := heap_alloc_new (w.alloc o0) o1
    rw [World.size_alloc] at this
    exact (Below.heap_alloc _ _ _ (by simp)).trans ((Below.heap_alloc _ _ _ (by simp)).trans this)
  · have := heap_alloc_new ((w.alloc o0).alloc o1) o2
    rw [World.size_alloc, World.size_alloc] at this
    exact (Below.heap_alloc _ _ _ (by simp)).trans this
  · have := heap_alloc_new (((w.alloc o0).alloc o1).alloc o2) o3
    rw [World.size_alloc, World.size_alloc, World.size_alloc] at this
    exact this
theorem set_same {w : World} {b : Nat} {v : Value} {t : TypeId} (h : w.heap[b]? = some (.cells #[v] t (0, 0))) : w.setCell ⟨b, 0, none⟩ v = w := by
  have hh : (w.setCell ⟨b, 0, none⟩ v).heap = w.heap := by
    apply Array.ext_getElem?
    intro i
    by_cases e : i = b
    · subst e
      rw [one_setCell h, h]
    · exact Below.heap_setCell _ _ _ _ e
  calc w.setCell ⟨b, 0, none⟩ v = { w with heap := (w.setCell ⟨b, 0, none⟩ v).heap } := rfl
    _ = w := by rw [hh]
noncomputable def wrQ (t : List ND) (p y : List UInt8) : List ND × Int := if (askQ t p).2 ≠ 0 then ([], (askQ t p).2) else writtenQ t (pathL p) y
theorem wrQ_put (t : List ND) (p x : List UInt8) : wrQ t p x = putQ t p x := rfl
set_option maxRecDepth 100000 in
set_option maxHeartbeats 4000000 in
theorem written_any (g0 : Nat) (eg0 : ∀ args w, (callFunc g0 args).run Tryz.prog w = .ok (.enter g0 args) w) (k : List UInt8 → List UInt8) (hk : ∀ old W, Calls Tryz.prog g0 #[encS old] W fun e w' => e = .returned (encS (k old)) ∧ W = w') (hkl : ∀ old, (k old).length ≤ old.length)
    (A : Option Addr) (c : Nat) (t : List ND) (p x : List UInt8) (w : World) (hT : NodesP w (fun _ => True) A t) (hl : t.length ≤ 1099511627776) (hz : SizeT t) (hcap : t.length ≤ c) (hp : p.length ≤ 137438953472) (hx : x.length ≤ 137438953472) :
    Calls Tryz.prog 227 #[.slice A t.length c, encS p, encS x, .func (.func g0) #[] #[]] w fun e w' => TellsN w (wrQ t p (k (oldL t (pathL p)) ++ x)) e w' := by
  obtain ⟨W1, hW1⟩ : ∃ W1, (((w.alloc (.cells #[.slice A t.length c] 23)).alloc (.cells #[encS x] 9)).alloc (.cells #[.func (.func g0) #[] #[]] 59)).alloc (.cells #[.slice none 0 0] 23) = W1 := ⟨_, rfl⟩
  obtain ⟨k0, k1, k2, k3, ks, kb⟩ := four_boxes w _ _ _ _ hW1
  have y0 := cell_of_one k0
  have hpl := pathL_len p
  have hTb := hT.below kb
  have eg := enters_of Tryz.func282 (by kernel_rfl) rfl
  obtain ⟨lb, hlb⟩ : ∃ lb : Array Value, lb = #[.pointer (some ⟨w.heap.size, 0, none⟩), .pointer (some ⟨w.heap.size + 2, 0, none⟩), .pointer (some ⟨w.heap.size + 1, 0, none⟩), .pointer (some ⟨w.heap.size + 3, 0, none⟩)] := ⟨_, rfl⟩
  have cA : Calls Tryz.prog 225 #[.slice A t.length c, encS p, .func (.func 282) #[] lb] W1 (AtPost (ClosR w.heap.size (w.heap.size + 3) w (wrQ t p (k (oldL t (pathL p)) ++ x)))) := by
    rcases askQ_cases t p with ⟨ha, hok, hq⟩ | ⟨ha, -, -⟩ | ⟨ha, -⟩
    · have hw : wrQ t p (k (oldL t (pathL p)) ++ x) = writtenQ t (pathL p) (k (oldL t (pathL p)) ++ x) := by unfold wrQ; rw [ha]; simp
      rw [hw]
      refine at_ok 282 lb eg _ A c t p W1 hTb hl hz hcap (by omega) hok hq fun W hb => ?_
      rw [hlb]
      exact writtenFn g0 eg0 k hk hkl A c t (pathL p) x w.heap.size (w.heap.size + 2) (w.heap.size + 1) (w.heap.size + 3) w.heap.size w W (by omega) ⟨by omega, by omega⟩
        (heap_below' k0 hb) (heap_below' k2 hb) (heap_below' k1 hb) (heap_below' k3 hb) (kb.trans (hb.mono (by omega))) (hTb.below hb) hok hz hcap (path_path p) (pathL_ne p) (by omega) hx
    · refine (at_err 282 lb A c t p 31 W1 hTb hl hz hcap (by omega) ha (by decide)).mono ?_
      rintro e w' ⟨rfl, hb⟩
      exact closR_nil (by unfold wrQ; rw [ha]; exact if_pos (by decide)) (heap_below' k3 hb) (kb.trans (hb.mono (by omega)))
    · refine (at_err 282 lb A c t p 9 W1 hTb hl hz hcap (by omega) ha (by decide)).mono ?_
      rintro e w' ⟨rfl, hb⟩
      exact closR_nil (by unfold wrQ; rw [ha]; exact if_pos (by decide)) (heap_below' k3 hb) (kb.trans (hb.mono (by omega)))
  rw [hlb] at cA
  generalize wrQ t p (k (oldL t (pathL p)) ++ x) = q at *
  clear hT hTb hz hk hkl k0 k1 k2 k3 hlb eg eg0
  go_enter Tryz.func227, Tryz.ntmps227
  go_wp2_with fail
  refine cA.mono ?_
  rintro e w2 ⟨n, rfl, rfl, a, c', hbx, hO, hB⟩
  have e0 := cell_of_one hbx
  have f0 := free_of_one hbx
  have HO := hid (And.intro hO hB)
  have HS := hid (set_same hbx)
  clear cA hO hB hW1
  go_wp2
  rw [show w.heap.size + 1 + 1 + 1 = w.heap.size + 3 from rfl, HS.out]
  exact bodyPost_ret (v := .tuple #[.slice a q.1.length c', .int .i64 q.2]) (by simp [results, Tryz.results227, go_sem, e0]) rfl ⟨a, c', rfl, HO.out.1, HO.out.2⟩
set_option maxHeartbeats 1000000 in
theorem putFn (old : List UInt8) (w : World) : Calls Tryz.prog 228 #[encS old] w fun e w' => e = .returned (encS []) ∧ w = w' := by
  go_enter Tryz.func228, Tryz.ntmps228
  go_wp2
  go_ret
  exact ⟨rfl, rfl⟩
set_option maxHeartbeats 1000000 in
theorem tPut_any (A : Option Addr) (c : Nat) (t : List ND) (p : List UInt8) (x : List UInt8) (w : World) (hT : NodesP w (fun _ => True) A t) (hl : t.length ≤ 1099511627776 ∧ t.length ≤ c) (hz : SizeT t) (hp : p.length ≤ 137438953472) (hx : x.length ≤ 137438953472) :
    Calls Tryz.prog 139 #[.slice A t.length c, encS p, encS x] w fun e w' => TellsN w (putQ t p x) e w' := by
  have cW := written_any 228 (enters_of Tryz.func228 (by kernel_rfl) rfl) (fun _ => []) putFn (fun _ => Nat.zero_le _) A c t p x w hT hl.1 hz hl.2 hp hx
  rw [List.nil_append, wrQ_put] at cW
  generalize putQ t p x = q at *
  clear hT hz
  go_enter Tryz.func139, Tryz.ntmps139
  go_wp2_with fail
  refine cW.mono ?_
  rintro e w1 ⟨a, c2, rfl, hO, hb⟩
  have HO := hid (And.intro hO hb)
  clear hb cW hO
  go_wp2_with fail
  go_ret2
  exact ⟨a, c2, rfl, HO.out.1, HO.out.2⟩
end Go.Proofs.YtgbibgppjicbgaaGreatDoor

namespace Go.Proofs.YtgbibgppjicbgaaGreatDoor
open Go.RowKit
open Go.Lib (hid)
def GetR (N rb : Nat) (w0 : World) (q : List UInt8 × Int) (n : Int) (W' : World) : Prop := n = q.2 ∧ W'.heap[rb]? = some (.cells #[encS q.1] 9 (0, 0)) ∧ Below N w0 W'
theorem getR_nil {N rb : Nat} {w0 W' : World} {q : List UInt8 × Int} {f : Int} (hq : q = ([], f)) (h4 : W'.heap[rb]? = some (.cells #[.string ⟨#[]⟩] 9 (0, 0))) (hB : Below N w0 W') : AtPost (GetR N rb w0 q) (.returned (.int .i64 f)) W' := by
  subst hq
  exact ⟨f, rfl, rfl, h4, hB⟩
set_option maxRecDepth 100000 in
set_option maxHeartbeats 4000000 in
theorem getFn (A : Option Addr) (c : Nat) (t : List ND) (p : List UInt8) (tb rb N : Nat) (w0 W : World) (hN : N ≤ rb) (h1 : W.heap[tb]? = some (.cells #[.slice A t.length c] 23 (0, 0))) (h4 : W.heap[rb]? = some (.cells #[.string ⟨#[]⟩] 9 (0, 0)))
    (hB : Below N w0 W) (hT : NodesP W (fun _ => True) A t) (hok : OkT t) (ha : askQ t p = (pathL p, 0)) :
    Calls Tryz.prog 258 #[.agg #[encS (pathL p), .int .i64 (whereN t (pathL p)), .int .i64 (kindL t (pathL p))], .pointer (some ⟨tb, 0, none⟩), .pointer (some ⟨rb, 0, none⟩)] W (AtPost (GetR N rb w0 (getQ t p))) := by
  have hNW : N ≤ W.heap.size := by have := lt_of_block h4; omega
  obtain ⟨P, hP⟩ : ∃ P, pathL p = P := ⟨_, rfl⟩
  have hq : getQ t p = if kindL t P = 0 then ([], 71) else if kindL t P = 2 then ([], 15) else (((findN t P).map (·.x)).getD [], 0) := by unfold getQ; rw [ha, ← hP]; simp
  rw [hP]
  obtain ⟨W1, hW1⟩ : ∃ W1, W.alloc (.cells #[encS P, .int .i64 (whereN t P), .int .i64 (kindL t P)] 207) = W1 := ⟨_, rfl⟩
  have hal : Below W.heap.size W W1 := by rw [← hW1]; exact (Below.refl _ _).alloc (Nat.le_refl _) _
  have hsp : W1.heap[W.heap.size]? = some (.cells #[encS P, .int .i64 (whereN t P), .int .i64 (kindL t P)] 207 (0, 0)) := by rw [← hW1]; exact heap_alloc_new _ _
  have g1 := heap_below' h1 hal; have g4 := heap_below' h4 hal
  have hT1 := hT.below hal
  have hB1 := hB.trans (hal.mono hNW)
  have x1 : W1.cell? ⟨W.heap.size, 1, none⟩ = some (.int .i64 (whereN t P)) := by simp [World.cell?, hsp]
  have x2 : W1.cell? ⟨W.heap.size, 2, none⟩ = some (.int .i64 (kindL t P)) := by simp [World.cell?, hsp]
  have y1 := cell_of_one g1
  by_cases hK : kindL t P = 2
  · have HQ : Hid (getQ t p = ([], 15)) := hid (by rw [hq, hK]; rfl)
    rw [hK] at x2 hW1 ⊢
    have HF := hid (And.intro g4 hB1)
    clear hT hT1 hok hK g1 g4 h1 h4 hsp hB hB1 y1 x1 ha hq hP
    go_enter Tryz.func258, Tryz.ntmps258
    go_wp2
    go_ret
    exact getR_nil HQ.out HF.out.1 HF.out.2
  rcases old_cases hok.asc hK with ⟨hK0, hf, ho⟩ | ⟨hK1, hw, hf, ho⟩
  · have HQ : Hid (getQ t p = ([], 71)) := hid (by rw [hq, hK0]; rfl)
    rw [hK0] at x2 hW1 ⊢
    have HF := hid (And.intro g4 hB1)
    clear hT hT1 hok hK hK0 hf ho g1 g4 h1 h4 hsp hB hB1 y1 x1 ha hq hP
    go_enter Tryz.func258, Tryz.ntmps258
    go_wp2
    go_ret
    exact getR_nil HQ.out HF.out.1 HF.out.2
  · have HQ : Hid (getQ t p = (t[whereN t P].x, 0)) := hid (by rw [hq, hK1, hf]; rfl)
    obtain ⟨g, o, rfl, -, -, -, c2⟩ := hT1 (whereN t P) hw
    have hxl := okT_x hok (List.getElem_mem hw)
    generalize t[whereN t P].x = nx at *
    have cC := fun W => clone_any nx (by omega) W
    rw [hK1] at x2 hW1 ⊢
    have hNW1 := hal.size
    clear hT hT1 hok hK hK1 hf ho g1 h1 h4 hsp hB ha hq hP
    go_enter Tryz.func258, Tryz.ntmps258
    go_wp2_with fail
    refine (cC _).mono ?_
    rintro e w2 ⟨rfl, hb2⟩
    have g5 := heap_below' g4 hb2
    have e0 := cell_of_one g5; have f0 := free_of_one g5
    have HF := hid (And.intro (one_setCell (u := encS nx) g5) ((hB1.trans (hb2.mono (Nat.le_trans hNW hNW1))).setCell (p := ⟨rb, 0, none⟩) hN (encS nx)))
    clear hb2 cC g4 g5 hB1
    go_wp2
    go_ret
    rw [HQ.out]
    exact ⟨0, rfl, rfl, HF.out.1, HF.out.2⟩
theorem two_boxes (w : World) (o0 o1 : Obj) {W : World} (hW : (w.alloc o0).alloc o1 = W) : W.heap[w.heap.size]? = some o0 ∧ W.heap[w.heap.size + 1]? = some o1 ∧ W.heap.size = w.heap.size + 2 ∧ Below w.heap.size w W := by
  subst hW
  refine ⟨(Below.heap_alloc _ _ _ (by simp)).trans (heap_alloc_new w _), ?_, by simp, ((Below.refl _ _).alloc (Nat.le_refl _) _).alloc (by simp) _⟩
  have := heap_alloc_new (w.alloc o0) o1
  rwa [World.size_alloc] at this
set_option maxRecDepth 100000 in
set_option maxHeartbeats 4000000 in
theorem tGet_any (A : Option Addr) (c : Nat) (t : List ND) (p : List UInt8) (w : World) (hT : NodesP w (fun _ => True) A t) (hl : t.length ≤ 1099511627776 ∧ t.length ≤ c) (hz : SizeT t) (hp : p.length ≤ 137438953472) :
    Calls Tryz.prog 184 #[.slice A t.length c, encS p] w fun e w' => e = .returned (.tuple #[encS (getQ t p).1, .int .i64 (getQ t p).2]) ∧ Below w.heap.size w w' := by
  obtain ⟨W1, hW1⟩ : ∃ W1, (w.alloc (.cells #[.slice A t.length c] 23)).alloc (.cells #[.string ⟨#[]⟩] 9) = W1 := ⟨_, rfl⟩
  obtain ⟨k0, k1, ks, kb⟩ := two_boxes w _ _ hW1
  have y0 := cell_of_one k0
  have hTb := hT.below kb
  have eg := enters_of Tryz.func258 (by kernel_rfl) rfl
  obtain ⟨lb, hlb⟩ : ∃ lb : Array Value, lb = #[.pointer (some ⟨w.heap.size, 0, none⟩), .pointer (some ⟨w.heap.size + 1, 0, none⟩)] := ⟨_, rfl⟩
  have cA : Calls Tryz.prog 225 #[.slice A t.length c, encS p, .func (.func 258) #[] lb] W1 (AtPost (GetR w.heap.size (w.heap.size + 1) w (getQ t p))) := by
    rcases askQ_cases t p with ⟨ha, hok, hq⟩ | ⟨ha, -, -⟩ | ⟨ha, -⟩
    · refine at_ok 258 lb eg _ A c t p W1 hTb hl.1 hz hl.2 (by omega) hok hq fun W hb => ?_
      rw [hlb]
      exact getFn A c t p w.heap.size (w.heap.size + 1) w.heap.size w W (by omega) (heap_below' k0 hb) (heap_below' k1 hb) (kb.trans (hb.mono (by omega))) (hTb.below hb) hok ha
    · refine (at_err 258 lb A c t p 31 W1 hTb hl.1 hz hl.2 (by omega) ha (by decide)).mono ?_
      rintro e w' ⟨rfl, hb⟩
      exact getR_nil (getQ_ask ha (by decide)) (heap_below' k1 hb) (kb.trans (hb.mono (by omega)))
    · refine (at_err 258 lb A c t p 9 W1 hTb hl.1 hz hl.2 (by omega) ha (by decide)).mono ?_
      rintro e w' ⟨rfl, hb⟩
      exact getR_nil (getQ_ask ha (by decide)) (heap_below' k1 hb) (kb.trans (hb.mono (by omega)))
  rw [hlb] at cA
  generalize getQ t p = q at *
  clear hT hTb hz k0 k1 hlb eg
  go_enter Tryz.func184, Tryz.ntmps184
  go_wp2_with fail
  refine cA.mono ?_
  rintro e w2 ⟨n, rfl, rfl, hbx, hB⟩
  have e0 := cell_of_one hbx
  have f0 := free_of_one hbx
  have HO := hid hB
  have HS := hid (set_same hbx)
  clear cA hB hW1
  go_wp2
  first | rw [HS.out] | rw [show w.heap.size + 1 = w.heap.size + 1 from rfl]
  exact bodyPost_ret (v := .tuple #[encS q.1, .int .i64 q.2]) (by simp [results, Tryz.results184, go_sem, e0]) rfl ⟨rfl, HO.out⟩
def KindR (N rb : Nat) (w0 : World) (k : Int) (_n : Int) (W' : World) : Prop := W'.heap[rb]? = some (.cells #[.int .i64 k] 3 (0, 0)) ∧ Below N w0 W'
set_option maxHeartbeats 2000000 in
theorem kindFn (P : List UInt8) (wh K : Int) (rb N : Nat) (w0 W : World) (hN : N ≤ rb) (h4 : W.heap[rb]? = some (.cells #[.int .i64 0] 3 (0, 0))) (hB : Below N w0 W) :
    Calls Tryz.prog 226 #[.agg #[encS P, .int .i64 wh, .int .i64 K], .pointer (some ⟨rb, 0, none⟩)] W (AtPost (KindR N rb w0 K)) := by
  have hNW : N ≤ W.heap.size := by have := lt_of_block h4; omega
  obtain ⟨W1, hW1⟩ : ∃ W1, W.alloc (.cells #[encS P, .int .i64 wh, .int .i64 K] 207) = W1 := ⟨_, rfl⟩
  have hal : Below W.heap.size W W1 := by rw [← hW1]; exact (Below.refl _ _).alloc (Nat.le_refl _) _
  have hsp : W1.heap[W.heap.size]? = some (.cells #[encS P, .int .i64 wh, .int .i64 K] 207 (0, 0)) := by rw [← hW1]; exact heap_alloc_new _ _
  have g4 := heap_below' h4 hal
  have hB1 := hB.trans (hal.mono hNW)
  have x2 : W1.cell? ⟨W.heap.size, 2, none⟩ = some (.int .i64 K) := by simp [World.cell?, hsp]
  have e0 := cell_of_one g4; have f0 := free_of_one g4
  have HF := hid (And.intro (one_setCell (u := .int .i64 K) g4) (hB1.setCell (p := ⟨rb, 0, none⟩) hN (.int .i64 K)))
  clear h4 hB hsp g4 hB1
  go_enter Tryz.func226, Tryz.ntmps226
  go_wp2
  go_ret
  exact ⟨0, rfl, HF.out.1, HF.out.2⟩
set_option maxRecDepth 100000 in
set_option maxHeartbeats 4000000 in
theorem tKind_any (A : Option Addr) (c : Nat) (t : List ND) (p : List UInt8) (w : World) (hT : NodesP w (fun _ => True) A t) (hl : t.length ≤ 1099511627776 ∧ t.length ≤ c) (hz : SizeT t) (hp : p.length ≤ 137438953472) :
    Calls Tryz.prog 138 #[.slice A t.length c, encS p] w fun e w' => e = .returned (.int .i64 (kindQ t p)) ∧ Below w.heap.size w w' := by
  obtain ⟨W1, hW1⟩ : ∃ W1, w.alloc (.cells #[.int .i64 0] 3) = W1 := ⟨_, rfl⟩
  have kb : Below w.heap.size w W1 := by rw [← hW1]; exact (Below.refl _ _).alloc (Nat.le_refl _) _
  have k0 : W1.heap[w.heap.size]? = some (.cells #[.int .i64 0] 3 (0, 0)) := by rw [← hW1]; exact heap_alloc_new _ _
  have ks : W1.heap.size = w.heap.size + 1 := by rw [← hW1]; simp
  have hTb := hT.below kb
  have eg := enters_of Tryz.func226 (by kernel_rfl) rfl
  obtain ⟨lb, hlb⟩ : ∃ lb : Array Value, lb = #[.pointer (some ⟨w.heap.size, 0, none⟩)] := ⟨_, rfl⟩
  have cA : Calls Tryz.prog 225 #[.slice A t.length c, encS p, .func (.func 226) #[] lb] W1 (AtPost (KindR w.heap.size w.heap.size w (kindQ t p))) := by
    rcases askQ_cases t p with ⟨ha, hok, hq⟩ | ⟨ha, -, -⟩ | ⟨ha, -⟩
    · refine at_ok 226 lb eg _ A c t p W1 hTb hl.1 hz hl.2 (by omega) hok hq fun W hb => ?_
      rw [hlb, show kindQ t p = kindL t (pathL p) by unfold kindQ; rw [ha]; simp]
      exact kindFn (pathL p) _ _ w.heap.size w.heap.size w W (Nat.le_refl _) (heap_below' k0 hb) (kb.trans (hb.mono (by omega)))
    · refine (at_err 226 lb A c t p 31 W1 hTb hl.1 hz hl.2 (by omega) ha (by decide)).mono ?_
      rintro e w' ⟨rfl, hb⟩
      rw [show kindQ t p = 0 by unfold kindQ; rw [ha]; simp]
      exact ⟨31, rfl, heap_below' k0 hb, kb.trans (hb.mono (by omega))⟩
    · refine (at_err 226 lb A c t p 9 W1 hTb hl.1 hz hl.2 (by omega) ha (by decide)).mono ?_
      rintro e w' ⟨rfl, hb⟩
      rw [show kindQ t p = 0 by unfold kindQ; rw [ha]; simp]
      exact ⟨9, rfl, heap_below' k0 hb, kb.trans (hb.mono (by omega))⟩
  rw [hlb] at cA
  generalize kindQ t p = q at *
  clear hT hTb hz k0 hlb eg
  go_enter Tryz.func138, Tryz.ntmps138
  go_wp2_with fail
  refine cA.mono ?_
  rintro e w2 ⟨n, rfl, hbx, hB⟩
  have e0 := cell_of_one hbx
  have f0 := free_of_one hbx
  have HO := hid hB
  have HS := hid (set_same hbx)
  clear cA hB hW1
  go_wp2
  rw [HS.out]
  exact bodyPost_ret (v := .int .i64 q) (by simp [results, Tryz.results138, go_sem, e0]) rfl ⟨rfl, HO.out⟩
end Go.Proofs.YtgbibgppjicbgaaGreatDoor
namespace Go.Proofs.YtgbibgppjicbgaaGreatDoor
open Go.RowKit
open Go.Lib (hid)
noncomputable def textY (t : List ND) (inn : List UInt8) (rd : Bool) (x : List UInt8) : List UInt8 := if x = [45] then (if rd then [] else inn) else (getQ t x).1
theorem step_out (t : List ND) (inn : List UInt8) (q : TQ) (x : List UInt8) : (textsStep t inn q x).out = q.out ++ textY t inn q.read x := by
  unfold textsStep textY
  obtain ⟨o, r, s⟩ := q
  by_cases h : x = [45]
  · simp only [if_pos h]
    cases r <;> simp
  · simp only [if_neg h]
theorem fold_out (t : List ND) (hok : OkT t) (inn : List UInt8) (l : List (List UInt8)) : (l.foldl (textsStep t inn) ⟨[], false, 0⟩).out.length ≤ l.length * 65536 + inn.length := by
  by_cases h : l = []
  · subst h; simp
  · have := texts_out t hok inn l
    unfold textsU at this
    rwa [if_neg h] at this
theorem textY_len {t : List ND} (hok : OkT t) (inn : List UInt8) (rd : Bool) (x : List UInt8) : (textY t inn rd x).length ≤ 65536 + inn.length := by
  unfold textY
  split
  · split
    · simp
    · omega
  · have := get_small hok x
    omega
section
variable {W : World} {N B : Nat} {C : Option Addr} {c : Nat} {R : Option Addr} {d : Nat} {o : List UInt8} {st : Int} {t : List ND} {rd : Bool} {l : List (List UInt8)} {inn : List UInt8}
theorem JobAt.tree (h : JobAt W N B C c R d o st t rd l inn) : NodesP W (fun _ => True) C t := fun i hi => by
  obtain ⟨g, q, e, -, c1⟩ := h.nodes i hi
  exact ⟨g, q, e, trivial, c1⟩
set_option linter.unusedSimpArgs false in
set_option maxHeartbeats 2000000 in
theorem text_any (x : List UInt8) (h : JobAt W N B C c R d o st t rd l inn) (hl : t.length ≤ 256) (hz : SizeT t) (hx : x.length ≤ 137438953472) :
    Calls Tryz.prog 129 #[.pointer (some ⟨B, 0, none⟩), encS x] W fun e w' => e = .returned (encS (textY t inn rd x)) ∧ (∀ a, JobAt w' N B C c R d o (textsStep t inn ⟨a, rd, st⟩ x).st t (textsStep t inn ⟨a, rd, st⟩ x).read l inn) ∧ Kept B W w' := by
  obtain ⟨-, -, c2, c3, c4, -, c6⟩ := h.cells
  have f2 := h.free 2
  have f4 := h.free 4
  have H := hid h
  by_cases h45 : x = [45]
  · subst h45
    cases rd
    · have HS := hid (h.set4 true)
      have hk : Hid (Kept B W (W.setCell ⟨B, 4, none⟩ (.bool true))) := hid ((Kept.refl _ _).setCell _ _)
      have c6' : (W.setCell ⟨B, 4, none⟩ (.bool true)).cell? ⟨B, 6, none⟩ = some (encS inn) := HS.out.cells.2.2.2.2.2.2
      clear h
      go_enter Tryz.func129, Tryz.ntmps129
      go_wp2_with fail
      go_ret
      exact ⟨by unfold textY; rw [if_pos rfl]; rfl, fun a => by unfold textsStep; rw [if_pos rfl]; exact HS.out, hk.out⟩
    · clear h
      go_enter Tryz.func129, Tryz.ntmps129
      go_wp2_with fail
      go_ret
      exact ⟨by unfold textY; rw [if_pos rfl]; rfl, fun a => by unfold textsStep; rw [if_pos rfl]; exact H.out, Kept.refl _ _⟩
  · have hx45 : (x == [45]) = false := by simpa using h45
    have cG := tGet_any C c t x W h.tree ⟨by omega, h.hc⟩ hz hx
    have HY : Hid (textY t inn rd x = (getQ t x).1) := hid (if_neg h45)
    have HT : Hid (∀ a, textsStep t inn ⟨a, rd, st⟩ x = ⟨a ++ (getQ t x).1, rd, if (getQ t x).2 ≠ 0 then 1 else st⟩) := hid fun a => if_neg h45
    generalize getQ t x = gq at cG HY HT
    obtain ⟨y, er⟩ := gq
    simp only at cG
    by_cases he : er = 0
    · subst he
      clear h h45
      go_enter Tryz.func129, Tryz.ntmps129
      go_wp2_with fail
      refine cG.mono ?_
      rintro e w1 ⟨rfl, hb⟩
      have HJ := hid (H.out.below hb)
      have HK := hid (Kept.of_below (B := B) hb)
      clear hb cG
      go_wp2_with fail
      go_ret
      exact ⟨by rw [HY.out]; rfl, fun a => by rw [HT.out, if_neg (by simp)]; exact HJ.out, HK.out⟩
    · have he1 : (er != 0) = true := by simpa using he
      have he2 : (er == 0) = false := by simpa using he
      clear h h45
      go_enter Tryz.func129, Tryz.ntmps129
      go_wp2_with fail
      refine cG.mono ?_
      rintro e w1 ⟨rfl, hb⟩
      have HJ := hid (H.out.below hb)
      have HK := hid (Kept.of_below (B := B) hb)
      clear c2 f2
      have f2 := HJ.out.free 2
      have c2 := HJ.out.cells.2.2.1
      clear hb cG
      go_wp2_with fail
      go_ret
      exact ⟨by rw [HY.out]; rfl, fun a => by rw [HT.out, if_pos he]; exact HJ.out.set2 1, HK.out.setCell _ _⟩
set_option linter.unusedSimpArgs false in
set_option maxRecDepth 100000 in
set_option maxHeartbeats 4000000 in
theorem texts_any (h : JobAt W N B C c R d o 0 t false l inn) (hok : OkT t) (hz : SizeT t) (hl : sizeTs l ≤ 1100000) (hi : inn.length ≤ 1100000) :
    Calls Tryz.prog 55 #[.pointer (some ⟨B, 0, none⟩)] W fun e w' => e = .returned (encS (textsU t inn l).out) ∧ JobAt w' N B C c R d o (textsU t inn l).st t (textsU t inn l).read l inn ∧ Kept B W w' := by
  have hlz := sizeTs_len l
  have hl256 : t.length ≤ 256 := hok.1
  obtain ⟨-, -, -, -, -, c5, -⟩ := h.cells
  have hBW := h.lt
  have hset : ∃ (S : Option Addr) (cap : Nat) (sl : List (List UInt8)) (V : World), (if l = [] then W.alloc (.cells #[encS [45]] 9) = V ∧ S = some ⟨W.heap.size, 0, none⟩ ∧ sl = [[45]] ∧ cap = 1 else W = V ∧ S = R ∧ sl = l ∧ cap = d) ∧ JobAt V N B C c R d o 0 t false l inn ∧ Kept B W V ∧ (∀ k (hk : k < sl.length), ∃ g q, S = some ⟨g, q, none⟩ ∧ g ≠ B ∧ V.cell? ⟨g, q + k, none⟩ = some (encS sl[k])) ∧ sl.foldl (textsStep t inn) ⟨[], false, 0⟩ = textsU t inn l ∧ sl.length ≤ 1100000 ∧ sl.length ≤ cap ∧ (∀ x ∈ sl, x.length ≤ 1100000) := by
    by_cases h0 : l = []
    · have hb : Below W.heap.size W (W.alloc (.cells #[encS [45]] 9)) := (Below.refl _ _).alloc (Nat.le_refl _) _
      refine ⟨some ⟨W.heap.size, 0, none⟩, 1, [[45]], _, by rw [if_pos h0]; exact ⟨rfl, rfl, rfl, rfl⟩, h.below hb, Kept.of_below hb, fun k hk => ?_, ?_, by simp, by simp, fun x hx => by obtain rfl := List.mem_singleton.1 hx; simp⟩
      · obtain rfl : k = 0 := by simp at hk; exact hk
        exact ⟨_, 0, rfl, by omega, (Lib.cell_of_heap (heap_alloc_new W (.cells #[encS [45]] 9)) 0).trans rfl⟩
      · unfold textsU
        rw [if_pos h0]
        show textsStep t inn ⟨[], false, 0⟩ [45] = _
        unfold textsStep
        rw [if_pos rfl]
        rfl
    · refine ⟨R, d, l, W, by rw [if_neg h0]; exact ⟨rfl, rfl, rfl, rfl⟩, h, Kept.refl _ _, fun k hk => ?_, by unfold textsU; rw [if_neg h0], by omega, h.hd, fun x hx => by have := sizeTs_mem l x hx; omega⟩
      obtain ⟨g, q, e, hg, hc⟩ := h.texts k hk
      exact ⟨g, q, e, by have := h.le; omega, hc⟩
  obtain ⟨S, cap, sl, V, hcase, hJ, hK, hS, hF, hsl, hcap, hsx⟩ := hset
  obtain ⟨M, hM⟩ : ∃ M, V.heap.size = M := ⟨_, rfl⟩
  have hWM : W.heap.size ≤ M := by have := hK.size; omega
  have hBM : B < M := by omega
  obtain ⟨W1, hW1⟩ : ∃ W1, V.alloc (.cells #[.pointer none, .slice none 0 0] 109) = W1 := ⟨_, rfl⟩
  have hb1 : Below M V W1 := by rw [← hW1]; exact (Below.refl _ _).alloc (by omega) _
  have hB1 : Bld 109 M M 0 #[.pointer none, .slice none 0 0] [] W1 := bld_new 109 _ M M 0 _ (by decide) (Nat.le_refl _) (by rw [← hW1, ← hM]; exact heap_alloc_new _ _) rfl rfl
  have HI := hid (And.intro hB1 (And.intro (hJ.low hb1 (by omega)) (And.intro hJ (And.intro hS (And.intro (Kept.of_below (B := B) (hM ▸ hb1)) hK)))))
  have HF := hid hF
  have HSX := hid hsx
  clear h hJ hK hS hF hb1 hB1 hsx
  obtain ⟨q, hq⟩ : ∃ q, textsU t inn l = q := ⟨_, rfl⟩
  rw [hq] at HF ⊢
  clear hq
  by_cases h0 : l = []
  · rw [if_pos h0] at hcase
    obtain ⟨hV, hS0, rfl, rfl⟩ := hcase
    subst h0
    simp only [List.length_nil] at c5
    go_enter Tryz.func55, Tryz.ntmps55
    go_wp2_with fail
    go_loopw [18, 6] (fun vi _ wr => ∃ (k : Nat) (p v : Value), vi = .int .i64 k ∧ k ≤ ([[45]] : List (List UInt8)).length ∧ Hid (Bld 109 M M 0 #[p, v] ((([[45]] : List (List UInt8)).take k).foldl (textsStep t inn) ⟨[], false, 0⟩).out wr) ∧ Hid (JobAt wr N B C c R d o ((([[45]] : List (List UInt8)).take k).foldl (textsStep t inn) ⟨[], false, 0⟩).st t ((([[45]] : List (List UInt8)).take k).foldl (textsStep t inn) ⟨[], false, 0⟩).read [] inn) ∧ Hid (Kept B V wr)) (fun vi _ _ => ([[45]] : List (List UInt8)).length - (intOf vi).toNat)
    case atStart => exact ⟨0, _, _, rfl, Nat.zero_le _, hid HI.out.1, hid HI.out.2.1, hid HI.out.2.2.2.2.1⟩
    case round =>
      obtain ⟨k, p, v, rfl, hk, HB, HJ, HK⟩ := hrel
      have hMw : M ≤ wr.heap.size := by have := HK.out.size; omega
      by_cases hlt : k < ([[45]] : List (List UInt8)).length
      · skip
        obtain ⟨g, z, hS, hgB, hc⟩ := HI.out.2.2.2.1 k hlt
        rw [hS0] at hS; cases hS
        have hc1 := (World.cell?_of_block (w := V) (a := ⟨W.heap.size, 0 + k, none⟩) (HK.out.block _ (World.block_lt_of_cell? _ _ hc) hgB)).trans hc
        try simp only [Nat.zero_add] at hc1
        have hx := HSX.out _ (List.getElem_mem hlt)
        have hfo := fold_out t hok inn (([[45]] : List (List UInt8)).take k)
        have hto : (([[45]] : List (List UInt8)).take k).length ≤ k := by rw [List.length_take]; omega
        have hyl := textY_len hok inn ((([[45]] : List (List UInt8)).take k).foldl (textsStep t inn) ⟨[], false, 0⟩).read ([[45]] : List (List UInt8))[k]
        have cX := text_any ([[45]] : List (List UInt8))[k] HJ.out hl256 hz (by omega)
        have hst := fun (q : TQ) => step_out t inn q ([[45]] : List (List UInt8))[k]
        have hnx : (([[45]] : List (List UInt8)).take (k + 1)).foldl (textsStep t inn) ⟨[], false, 0⟩ = textsStep t inn ((([[45]] : List (List UInt8)).take k).foldl (textsStep t inn) ⟨[], false, 0⟩) ([[45]] : List (List UInt8))[k] := texts_take_step t inn ([[45]] : List (List UInt8)) k hlt
        have hkz : (k : Int) < ((1 : Nat) : Int) := by omega
        have HNX := hid (And.intro hnx hst)
        generalize (([[45]] : List (List UInt8)).take k).foldl (textsStep t inn) ⟨[], false, 0⟩ = qk at *
        generalize ([[45]] : List (List UInt8))[k] = x at *
        obtain ⟨qo, qr, qs⟩ := qk
        simp only at HB HJ hfo hyl cX
        have HX := hid (cX)
        try clear hS
        clear hc hnx hst HJ hx
        go_wp2_with fail
        refine cX.mono ?_
        rintro e w1 ⟨rfl, hJ1, hk1⟩
        have HK1 := hid (HK.out.trans hk1)
        have HJ1 := hid (hJ1 qo)
        have HB1 := HB.out.kept hk1 hBM
        have hM1 : M ≤ w1.heap.size := by have := hk1.size; omega
        have cW := bstr_any 109 M M 0 #[p, v] qo (textY t inn qr x) w1 lies_B HB1 (by omega) hM1
        clear cX hk1 hJ1 HB1 HX HK HB
        go_wp2_with fail
        refine cW.mono ?_
        rintro e w2 ⟨rfl, ⟨v', hB2⟩, hbe⟩
        have hb2 := hbe.below (Nat.le_refl _) hM1
        have HK2 := hid (HK1.out.low (hM ▸ hb2))
        have HJ2 := hid (HI.out.2.2.1.re HJ1.out HK2.out (hb2.mono (by omega)))
        obtain ⟨p', v'', e⟩ := bld_two hB2 (by simp)
        rw [e] at hB2
        have HB2 := hid hB2
        clear cW hbe hb2 hB2 e HK1 HJ1
        go_wp2_with fail
        go_roundw
        case rel => exact ⟨k + 1, p', v'', by go_num, by omega, by rw [HNX.out.1, HNX.out.2]; exact HB2, by rw [HNX.out.1]; exact HJ2, HK2⟩
        case measure => simp [intOf]; omega
      · have hke : ([[45]] : List (List UInt8)).take k = ([[45]] : List (List UInt8)) := List.take_of_length_le (by omega)
        rw [hke, HF.out] at HB HJ
        obtain rfl : k = 1 := by simp at hk hlt; omega
        have hkz : ¬ ((1 : Nat) : Int) < ((1 : Nat) : Int) := by omega
        clear hke
        have cS := btold_any 109 M M 0 #[p, v] q.out wr HB.out
        clear HB
        go_wp2_with fail
        refine cS.mono ?_
        rintro e w2 ⟨rfl, -, hbe⟩
        have hb2 := hbe.below (Nat.le_refl _) hMw
        have HK2 := hid (HK.out.low (hM ▸ hb2))
        have HJ2 := hid (HI.out.2.2.1.re HJ.out HK2.out (hb2.mono (by omega)))
        clear hbe hb2 cS HK HJ
        go_wp2_with fail
        go_ret
        exact ⟨rfl, HJ2.out, HI.out.2.2.2.2.2.trans HK2.out⟩
  · rw [if_neg h0] at hcase
    obtain ⟨hV, hS0, hL0, hD0⟩ := hcase
    obtain rfl := hV.symm
    obtain rfl := hS0.symm
    obtain rfl := hL0.symm
    obtain rfl := hD0.symm
    have hne : ((l.length : Int) == 0) = false := by simpa using h0
    clear h0
    go_enter Tryz.func55, Tryz.ntmps55
    go_wp2_with fail
    go_loopw [18, 6] (fun vi _ wr => ∃ (k : Nat) (p v : Value), vi = .int .i64 k ∧ k ≤ l.length ∧ Hid (Bld 109 M M 0 #[p, v] ((l.take k).foldl (textsStep t inn) ⟨[], false, 0⟩).out wr) ∧ Hid (JobAt wr N B C c R d o ((l.take k).foldl (textsStep t inn) ⟨[], false, 0⟩).st t ((l.take k).foldl (textsStep t inn) ⟨[], false, 0⟩).read l inn) ∧ Hid (Kept B V wr)) (fun vi _ _ => l.length - (intOf vi).toNat)
    case atStart => exact ⟨0, _, _, rfl, Nat.zero_le _, hid HI.out.1, hid HI.out.2.1, hid HI.out.2.2.2.2.1⟩
    case round =>
      obtain ⟨k, p, v, rfl, hk, HB, HJ, HK⟩ := hrel
      have hMw : M ≤ wr.heap.size := by have := HK.out.size; omega
      by_cases hlt : k < l.length
      · skip
        obtain ⟨g, z, hS, hgB, hc⟩ := HI.out.2.2.2.1 k hlt
        subst hS
        have hc1 := (World.cell?_of_block (w := V) (a := ⟨g, z + k, none⟩) (HK.out.block _ (World.block_lt_of_cell? _ _ hc) hgB)).trans hc
        try simp only [Nat.zero_add] at hc1
        have hx := HSX.out _ (List.getElem_mem hlt)
        have hfo := fold_out t hok inn (l.take k)
        have hto : (l.take k).length ≤ k := by rw [List.length_take]; omega
        have hyl := textY_len hok inn ((l.take k).foldl (textsStep t inn) ⟨[], false, 0⟩).read l[k]
        have cX := text_any l[k] HJ.out hl256 hz (by omega)
        have hst := fun (q : TQ) => step_out t inn q l[k]
        have hnx : (l.take (k + 1)).foldl (textsStep t inn) ⟨[], false, 0⟩ = textsStep t inn ((l.take k).foldl (textsStep t inn) ⟨[], false, 0⟩) l[k] := texts_take_step t inn l k hlt
        have hkz : (k : Int) < ((l.length : Nat) : Int) := by omega
        have HNX := hid (And.intro hnx hst)
        generalize (l.take k).foldl (textsStep t inn) ⟨[], false, 0⟩ = qk at *
        generalize l[k] = x at *
        obtain ⟨qo, qr, qs⟩ := qk
        simp only at HB HJ hfo hyl cX
        have HX := hid (cX)
        try clear hS
        clear hc hnx hst HJ hx
        go_wp2_with fail
        refine cX.mono ?_
        rintro e w1 ⟨rfl, hJ1, hk1⟩
        have HK1 := hid (HK.out.trans hk1)
        have HJ1 := hid (hJ1 qo)
        have HB1 := HB.out.kept hk1 hBM
        have hM1 : M ≤ w1.heap.size := by have := hk1.size; omega
        have cW := bstr_any 109 M M 0 #[p, v] qo (textY t inn qr x) w1 lies_B HB1 (by omega) hM1
        clear cX hk1 hJ1 HB1 HX HK HB
        go_wp2_with fail
        refine cW.mono ?_
        rintro e w2 ⟨rfl, ⟨v', hB2⟩, hbe⟩
        have hb2 := hbe.below (Nat.le_refl _) hM1
        have HK2 := hid (HK1.out.low (hM ▸ hb2))
        have HJ2 := hid (HI.out.2.2.1.re HJ1.out HK2.out (hb2.mono (by omega)))
        obtain ⟨p', v'', e⟩ := bld_two hB2 (by simp)
        rw [e] at hB2
        have HB2 := hid hB2
        clear cW hbe hb2 hB2 e HK1 HJ1
        go_wp2_with fail
        go_roundw
        case rel => exact ⟨k + 1, p', v'', by go_num, by omega, by rw [HNX.out.1, HNX.out.2]; exact HB2, by rw [HNX.out.1]; exact HJ2, HK2⟩
        case measure => simp [intOf]; omega
      · have hke : l.take k = l := List.take_of_length_le (by omega)
        rw [hke, HF.out] at HB HJ
        obtain rfl : k = l.length := by omega
        have hkz : ¬ ((l.length : Nat) : Int) < ((l.length : Nat) : Int) := by omega
        clear hke
        have cS := btold_any 109 M M 0 #[p, v] q.out wr HB.out
        clear HB
        go_wp2_with fail
        refine cS.mono ?_
        rintro e w2 ⟨rfl, -, hbe⟩
        have hb2 := hbe.below (Nat.le_refl _) hMw
        have HK2 := hid (HK.out.low (hM ▸ hb2))
        have HJ2 := hid (HI.out.2.2.1.re HJ.out HK2.out (hb2.mono (by omega)))
        clear hbe hb2 cS HK HJ
        go_wp2_with fail
        go_ret
        exact ⟨rfl, HJ2.out, HI.out.2.2.2.2.2.trans HK2.out⟩
end
end Go.Proofs.YtgbibgppjicbgaaGreatDoor

namespace Go.Proofs.YtgbibgppjicbgaaGreatDoor
open Go.RowKit
def kindK (p : List UInt8) : Int :=
  if p = [45, 110] then 1 else if p = [45, 122] then 2 else if p = [45, 101] then 3 else if p = [45, 102] then 4 else if p = [45, 100] then 5 else if p = [45, 115] then 6
  else if p = [61] then 7 else if p = [33, 61] then 8 else if p = [45, 101, 113] then 9 else if p = [45, 110, 101] then 10 else if p = [45, 108, 116] then 11
  else if p = [45, 108, 101] then 12 else if p = [45, 103, 116] then 13 else if p = [45, 103, 101] then 14 else 0
def unaryL (p : List UInt8) : Bool := decide (1 ≤ kindK p) && decide (kindK p ≤ 6)
def binaryL (p : List UInt8) : Bool := decide (7 ≤ kindK p) && decide (kindK p ≤ 14)
def statusL (b : Bool) : Int := if b then 0 else 1
theorem status_lo (b : Bool) : 0 ≤ statusL b ∧ statusL b ≤ 1 := by cases b <;> decide
def oppL (n : Int) : Int := if 1 < n then n else 1 - n
noncomputable def singleL (t : List ND) (p s : List UInt8) : Int :=
  if kindK p = 1 then statusL (!s.isEmpty) else if kindK p = 2 then statusL s.isEmpty else if kindK p = 3 then statusL (kindQ t s != 0)
  else if kindK p = 4 then statusL (kindQ t s == 1) else if kindK p = 5 then statusL (kindQ t s == 2) else if kindK p = 6 then statusL (!(getQ t s).1.isEmpty) else 2
def cmpL (k m n : Int) : Bool := if k = 9 then m == n else if k = 10 then m != n else if k = 11 then decide (m < n) else if k = 12 then decide (m ≤ n) else if k = 13 then decide (n < m) else decide (n ≤ m)
def bothL (a p b : List UInt8) : Int :=
  if kindK p = 7 then statusL (a == b) else if kindK p = 8 then statusL (a != b) else if binaryL p = false then 2
  else if (parseW a).2 ≠ 0 ∨ (parseW b).2 ≠ 0 then 2 else statusL (cmpL (kindK p) (parseW a).1 (parseW b).1)
theorem single_lo (t : List ND) (p s : List UInt8) : 0 ≤ singleL t p s ∧ singleL t p s ≤ 2 := by
  unfold singleL
  repeat' split
  all_goals first | decide | (have := status_lo (!s.isEmpty); have := status_lo s.isEmpty; have := status_lo (kindQ t s != 0); have := status_lo (kindQ t s == 1); have := status_lo (kindQ t s == 2); have := status_lo (!(getQ t s).1.isEmpty); omega)
theorem both_lo (a p b : List UInt8) : 0 ≤ bothL a p b ∧ bothL a p b ≤ 2 := by
  unfold bothL
  repeat' split
  all_goals first | decide | (have := status_lo (a == b); have := status_lo (a != b); have := status_lo (cmpL (kindK p) (parseW a).1 (parseW b).1); omega)
def e1 (a : List UInt8) : Int := statusL (!a.isEmpty)
noncomputable def e2 (t : List ND) (a b : List UInt8) : Int := if unaryL a then singleL t a b else if a = [33] then oppL (e1 b) else 2
noncomputable def e3 (t : List ND) (a b c : List UInt8) : Int := if binaryL b then bothL a b c else if a = [33] then oppL (e2 t b c) else if a = [40] ∧ c = [41] then e1 b else 2
noncomputable def e4 (t : List ND) (a b c d : List UInt8) : Int := if a = [33] then oppL (e3 t b c d) else if a = [40] ∧ d = [41] then e2 t b c else 2
noncomputable def evalL (t : List ND) (l : List (List UInt8)) : Int :=
  match l with
  | [] => 1
  | [a] => e1 a
  | [a, b] => e2 t a b
  | [a, b, c] => e3 t a b c
  | [a, b, c, d] => e4 t a b c d
  | _ => 2
theorem opp_lo {n : Int} (h : 0 ≤ n ∧ n ≤ 2) : 0 ≤ oppL n ∧ oppL n ≤ 2 := by unfold oppL; split <;> omega
theorem e1_lo (a : List UInt8) : 0 ≤ e1 a ∧ e1 a ≤ 2 := by have := status_lo (!a.isEmpty); unfold e1; omega
theorem e2_lo (t : List ND) (a b : List UInt8) : 0 ≤ e2 t a b ∧ e2 t a b ≤ 2 := by
  unfold e2
  repeat' split
  all_goals first | decide | exact single_lo _ _ _ | exact opp_lo (e1_lo _)
theorem e3_lo (t : List ND) (a b c : List UInt8) : 0 ≤ e3 t a b c ∧ e3 t a b c ≤ 2 := by
  unfold e3
  repeat' split
  all_goals first | decide | exact both_lo _ _ _ | exact opp_lo (e2_lo _ _ _) | exact e1_lo _
theorem e4_lo (t : List ND) (a b c d : List UInt8) : 0 ≤ e4 t a b c d ∧ e4 t a b c d ≤ 2 := by
  unfold e4
  repeat' split
  all_goals first | decide | exact opp_lo (e3_lo _ _ _ _) | exact e2_lo _ _ _
theorem eval_lo (t : List ND) (l : List (List UInt8)) : 0 ≤ evalL t l ∧ evalL t l ≤ 2 := by
  unfold evalL
  split
  · decide
  · exact e1_lo _
  · exact e2_lo _ _ _
  · exact e3_lo _ _ _ _
  · exact e4_lo _ _ _ _ _
  · decide
end Go.Proofs.YtgbibgppjicbgaaGreatDoor

namespace Go.Proofs.YtgbibgppjicbgaaGreatDoor
open Go.RowKit
structure UQ where
  out : List UInt8
  st : Int
  tree : List ND
  read : Bool
  err : Int
def usageU (t : List ND) : UQ := ⟨[], 2, t, false, 0⟩
def tellU (t : List ND) (out : List UInt8) (st : Int) : UQ := ⟨out, st, t, false, 0⟩
def ofT (t : List ND) (u : TQ) (out : List UInt8) : UQ := ⟨out, u.st, t, u.read, 0⟩
def linesA (args : List (List UInt8)) : Int × List (List UInt8) :=
  match args with
  | a :: b :: r => if a = [45, 110] then (numO b, r) else (10, args)
  | _ => (10, args)
noncomputable def linesU (tail : Bool) (t : List ND) (inn : List UInt8) (args : List (List UInt8)) : UQ :=
  if (linesA args).1 < 0 ∨ (lettersL [] [] (linesA args).2).ok = false then usageU t
  else ofT t (textsU t inn (lettersL [] [] (linesA args).2).rest) (if tail then lastL3 (textsU t inn (lettersL [] [] (linesA args).2).rest).out (linesA args).1 else headL (textsU t inn (lettersL [] [] (linesA args).2).rest).out (linesA args).1)
def countL (o s : List UInt8) : List UInt8 :=
  (if o = [108] then printL (tensN s) else if o = [119] then printL (wordsN false s) else if o = [99] then printL (s.length) else printL (tensN s) ++ [32] ++ printL (wordsN false s) ++ [32] ++ printL (s.length)) ++ [10]
noncomputable def countU (t : List ND) (inn : List UInt8) (args : List (List UInt8)) : UQ :=
  if (lettersL [108, 119, 99] [] args).ok = false ∨ 1 < (lettersL [108, 119, 99] [] args).out.length then usageU t
  else ofT t (textsU t inn (lettersL [108, 119, 99] [] args).rest) (countL (lettersL [108, 119, 99] [] args).out (textsU t inn (lettersL [108, 119, 99] [] args).rest).out)
noncomputable def textyU (name : List UInt8) (t : List ND) (inn : List UInt8) (args : List (List UInt8)) : UQ := ⟨(textyQ name t inn args).out, (textyQ name t inn args).st, t, (textyQ name t inn args).read, 0⟩
def swapsA (inn : List UInt8) (args : List (List UInt8)) : List UInt8 × Bool :=
  match args with
  | [a, b] => if a = [45, 100] then delT inn b else transT inn a b
  | _ => ([], false)
def swapsU (t : List ND) (inn : List UInt8) (args : List (List UInt8)) : UQ := if (swapsA inn args).2 = false then usageU t else ⟨(swapsA inn args).1, 0, t, true, 0⟩
def splitM (m : UInt8) : List UInt8 → List (List UInt8)
  | [] => [[]]
  | c :: r => if c = m then [] :: splitM m r else match splitM m r with
    | [] => [[c]]
    | x :: t => (c :: x) :: t
def partT (m : UInt8) (f : Int) (line : List UInt8) : List UInt8 := if m ∈ line then (if 1 ≤ f then (splitM m line).getD (f.toNat - 1) [] else []) else line
def cutT (s : List UInt8) (m : UInt8) (f : Int) : List UInt8 := joinE ((linesL s).map (partT m f))
noncomputable def cutU (t : List ND) (inn : List UInt8) (args : List (List UInt8)) : UQ :=
  match args with
  | a :: [m] :: c :: d :: r =>
    if a ≠ [45, 100] ∨ c ≠ [45, 102] ∨ numO d < 1 ∨ (lettersL [] [] r).ok = false then usageU t
    else ofT t (textsU t inn (lettersL [] [] r).rest) (cutT (textsU t inn (lettersL [] [] r).rest).out m (numO d))
  | _ => usageU t
noncomputable def remS (r f : Bool) (q : List ND × Int) (x : List UInt8) : List ND × Int :=
  if (remQ q.1 x r).2 = 0 then ((remQ q.1 x r).1, q.2) else if (remQ q.1 x r).2 ≠ 71 ∨ f = false then (q.1, 1) else q
noncomputable def rmU (t : List ND) (args : List (List UInt8)) : UQ :=
  if (lettersL [102, 114] [] args).ok = false then usageU t
  else tellU ((lettersL [102, 114] [] args).rest.foldl (remS ((lettersL [102, 114] [] args).out.contains 114) ((lettersL [102, 114] [] args).out.contains 102)) (t, 0)).1 [] ((lettersL [102, 114] [] args).rest.foldl (remS ((lettersL [102, 114] [] args).out.contains 114) ((lettersL [102, 114] [] args).out.contains 102)) (t, 0)).2
def begsL (p : Bool) (x : List UInt8) : List (List UInt8) := if p = true ∧ (pathQ x).2 = 0 then (List.range (partsL x).length).map fun k => joinL ((partsL x).take (k + 1)) else [x]
noncomputable def mkS (p : Bool) (q : Option (List ND × Int)) (x : List UInt8) : Option (List ND × Int) :=
  match q with
  | none => none
  | some (t, s) => if (mkQ t x).2 = 0 then some ((mkQ t x).1, s) else if (mkQ t x).2 = 17 then none else if (mkQ t x).2 ≠ 14 ∨ p = false ∨ kindQ t x ≠ 2 then some (t, 1) else some (t, s)
noncomputable def touchS (q : Option (List ND × Int)) (x : List UInt8) : Option (List ND × Int) :=
  match q with
  | none => none
  | some (t, s) => if kindQ t x ≠ 0 then some (t, s) else if (putQ t x []).2 = 0 then some ((putQ t x []).1, s) else if (putQ t x []).2 = 17 then none else some (t, 1)
def fullU (t : List ND) (q : Option (List ND × Int)) : UQ := match q with | none => ⟨[], 1, t, false, 17⟩ | some (t', s) => tellU t' [] s
noncomputable def mkU (t : List ND) (args : List (List UInt8)) : UQ :=
  if (lettersL [112] [] args).ok = false ∨ (lettersL [112] [] args).rest = [] then usageU t
  else fullU t (((lettersL [112] [] args).rest.flatMap (begsL (!(lettersL [112] [] args).out.isEmpty))).foldl (mkS (!(lettersL [112] [] args).out.isEmpty)) (some (t, 0)))
noncomputable def touchU (t : List ND) (args : List (List UInt8)) : UQ :=
  if (lettersL [] [] args).ok = false ∨ (lettersL [] [] args).rest = [] then usageU t
  else fullU t ((lettersL [] [] args).rest.foldl touchS (some (t, 0)))
def countUp (a b : Int) : List UInt8 := (List.range (b - a + 1).toNat).flatMap fun k : Nat => printL (a + (k : Int)) ++ [10]
def seqE (a b : Int × Int) (t : List ND) : UQ := if a.2 ≠ 0 ∨ b.2 ≠ 0 ∨ (a.1 ≤ b.1 ∧ 4096 ≤ b.1 - a.1) then usageU t else tellU t (countUp a.1 b.1) 0
def seqU (t : List ND) (args : List (List UInt8)) : UQ :=
  match args with
  | [b] => seqE (1, 0) (parseW b) t
  | [a, b] => seqE (parseW a) (parseW b) t
  | _ => usageU t
def stripS (s : List UInt8) : List UInt8 := if s.all (· == 47) then s.take 1 else (s.reverse.dropWhile (· == 47)).reverse
def behindS (s : List UInt8) : List UInt8 := (s.reverse.takeWhile (· != 47)).reverse
def aheadS (s : List UInt8) : List UInt8 := ((s.reverse.dropWhile (· != 47)).drop 1).reverse
def baseL (s : List UInt8) : List UInt8 := if stripS s = [47] then [47] else behindS (stripS s)
def dirL (s : List UInt8) : List UInt8 := if stripS s = [47] then [47] else if 47 ∉ stripS s then [46] else if stripS (aheadS (stripS s)) = [] then [47] else stripS (aheadS (stripS s))
def baseU (dir : Bool) (t : List ND) (args : List (List UInt8)) : UQ :=
  match args with
  | [s] => tellU t ((if dir then dirL s else baseL s) ++ [10]) 0
  | _ => usageU t
def cmpN (op : List UInt8) (x y : Int) : Option Bool :=
  if op = [61] then some (decide (x = y)) else if op = [33, 61] then some (decide (x ≠ y)) else if op = [60] then some (decide (x < y)) else if op = [60, 61] then some (decide (x ≤ y)) else if op = [62] then some (decide (y < x)) else if op = [62, 61] then some (decide (y ≤ x)) else none
open Classical in
noncomputable def cmpS (op x y : List UInt8) : Option Bool :=
  if op = [61] then some (decide (x = y)) else if op = [33, 61] then some (decide (x ≠ y)) else if op = [60] then some (decide (x < y)) else if op = [60, 61] then some (decide (x ≤ y)) else if op = [62] then some (decide (y < x)) else if op = [62, 61] then some (decide (y ≤ x)) else none
def twoN (op : List UInt8) (x y : Int) : Option Int :=
  if op = [43] then some (wrap64 (x + y)) else if op = [45] then some (wrap64 (x - y)) else if op = [42] then some (wrap64 (x * y))
  else if op = [47] then (if y = 0 then none else some (wrap64 (x.tdiv y))) else if op = [37] then (if y = 0 then none else some (wrap64 (x.tmod y))) else none
noncomputable def exprU (t : List ND) (args : List (List UInt8)) : UQ :=
  match args with
  | [a, op, b] =>
    match (if (parseW a).2 = 0 ∧ (parseW b).2 = 0 then cmpN op (parseW a).1 (parseW b).1 else cmpS op a b) with
    | some c => tellU t (printL (if c then 1 else 0) ++ [10]) (if c then 0 else 1)
    | none =>
      if (parseW a).2 = 0 ∧ (parseW b).2 = 0 then
        match twoN op (parseW a).1 (parseW b).1 with
        | some n => tellU t (printL n ++ [10]) (if n = 0 then 1 else 0)
        | none => usageU t
      else usageU t
  | _ => usageU t
def formatU (t : List ND) (args : List (List UInt8)) : UQ :=
  match args with
  | [] => usageU t
  | f :: r => tellU t (formatL f r).1 (formatL f r).2
noncomputable def bracketU (t : List ND) (args : List (List UInt8)) : UQ := if args.getLast? = some [93] then tellU t [] (evalL t args.dropLast) else usageU t
def namesU : List (List UInt8) := [[58], [116, 114, 117, 101], [102, 97, 108, 115, 101], [101, 99, 104, 111], [112, 114, 105, 110, 116, 102], [116, 101, 115, 116], [91], [99, 97, 116], [104, 101, 97, 100], [116, 97, 105, 108], [119, 99], [115, 111, 114, 116], [116, 114], [117, 110, 105, 113], [99, 117, 116], [114, 101, 118], [114, 109], [109, 107, 100, 105, 114], [116, 111, 117, 99, 104], [115, 101, 113], [98, 97, 115, 101, 110, 97, 109, 101], [100, 105, 114, 110, 97, 109, 101], [101, 120, 112, 114]]
noncomputable def dispU (name : List UInt8) (args : List (List UInt8)) (inn : List UInt8) (t : List ND) : UQ :=
  if name = [99, 97, 116] ∨ name = [115, 111, 114, 116] ∨ name = [117, 110, 105, 113] ∨ name = [114, 101, 118] then textyU name t inn args
  else if name = [104, 101, 97, 100] then linesU false t inn args
  else if name = [116, 97, 105, 108] then linesU true t inn args
  else if name = [119, 99] then countU t inn args
  else if name = [116, 114] then swapsU t inn args
  else if name = [99, 117, 116] then cutU t inn args
  else if name = [114, 109] then rmU t args
  else if name = [109, 107, 100, 105, 114] then mkU t args
  else if name = [116, 111, 117, 99, 104] then touchU t args
  else if name = [102, 97, 108, 115, 101] then tellU t [] 1
  else if name = [101, 99, 104, 111] then tellU t (echoL args) 0
  else if name = [112, 114, 105, 110, 116, 102] then formatU t args
  else if name = [116, 101, 115, 116] then tellU t [] (evalL t args)
  else if name = [91] then bracketU t args
  else if name = [115, 101, 113] then seqU t args
  else if name = [98, 97, 115, 101, 110, 97, 109, 101] then baseU false t args
  else if name = [100, 105, 114, 110, 97, 109, 101] then baseU true t args
  else if name = [101, 120, 112, 114] then exprU t args
  else tellU t [] 0
noncomputable def runU (name : List UInt8) (args : List (List UInt8)) (inn : List UInt8) (t : List ND) : UQ :=
  if name ∉ namesU then ⟨[], 0, [], false, 31⟩ else if checkL t ≠ 0 then ⟨[], 0, [], false, checkL t⟩
  else if 65536 < (dispU name args inn t).out.length then ⟨[], 1, t, false, 17⟩ else dispU name args inn t
end Go.Proofs.YtgbibgppjicbgaaGreatDoor

namespace Go.Proofs.YtgbibgppjicbgaaGreatDoor
open Go.RowKit
open Go.Lib (hid)
theorem printL_len {n : Int} (h0 : -9223372036854775808 ≤ n) (h1 : n ≤ 9223372036854775807) : (printL n).length ≤ 20 := by
  have h : ∀ (k u : Nat), u < 10 ^ (k + 1) → (decD u).length ≤ k + 1 := fun k => by
    induction k with
    | zero => intro u hu; rw [decD_one (by simpa using hu)]; simp
    | succ k ih =>
      intro u hu
      by_cases h : u < 10
      · rw [decD_one h]; simp
      · rw [decD_more (by omega), List.length_append, List.length_singleton]
        have := ih (u / 10) (by rw [Nat.pow_succ] at hu; omega)
        omega
  have := h 18 n.natAbs (by omega)
  unfold printL
  split
  · rw [List.length_cons]; omega
  · omega
end Go.Proofs.YtgbibgppjicbgaaGreatDoor

namespace Go.Proofs.YtgbibgppjicbgaaGreatDoor
open Go.RowKit
theorem all_u8 {p : UInt8 → Prop} (h : ∀ n : Fin 256, p (UInt8.ofFin n)) : ∀ c, p c := fun c => h c.toFin
def inW (b : Bool) (a : List UInt8) : Bool := match a.getLast? with | none => b | some d => !blankW d
theorem words_snoc : ∀ (a : List UInt8) (b : Bool) (c : UInt8), wordsN b (a ++ [c]) = wordsN b a + if blankW c then 0 else if inW b a then 0 else 1
  | [], b, c => by cases hb : blankW c <;> cases b <;> simp [wordsN, inW, hb]
  | d :: a, b, c => by
    rw [List.cons_append, wordsN, wordsN]
    have hi : inW (!blankW d) a = inW b (d :: a) := by
      cases a with
      | nil => rfl
      | cons x y =>
        unfold inW
        rw [List.getLast?_cons_cons]
        cases h : (x :: y).getLast? with
        | none => simp at h
        | some z => rfl
    cases hd : blankW d
    · rw [hd] at hi
      have hn : ¬ (false = true) := by simp
      rw [if_neg hn, if_neg hn, words_snoc a true c, ← hi]
      simp only [Bool.not_false]
      omega
    · rw [hd] at hi
      rw [if_pos rfl, if_pos rfl, words_snoc a false c, ← hi]
      simp only [Bool.not_true]
theorem words_take (s : List UInt8) (k : Nat) (hk : k < s.length) : wordsN false (s.take (k + 1)) = wordsN false (s.take k) + if blankW s[k] then 0 else if (if h : 0 < k then !blankW (s[k - 1]'(by omega)) else false) then 0 else 1 := by
  rw [List.take_succ_eq_append_getElem hk, words_snoc]
  congr 3
  by_cases h : 0 < k
  · rw [dif_pos h]
    unfold inW
    obtain ⟨j, rfl⟩ : ∃ j, k = j + 1 := ⟨k - 1, by omega⟩
    rw [List.take_succ_eq_append_getElem (by omega), List.getLast?_concat]
    rfl
  · obtain rfl : k = 0 := by omega
    rfl
theorem blank_index : ∀ c : UInt8, decide (0 ≤ Lib.indexByte [32, 9, 10, 13] c) = blankW c := all_u8 (by decide +kernel)
end Go.Proofs.YtgbibgppjicbgaaGreatDoor

namespace Go.Proofs.YtgbibgppjicbgaaGreatDoor
open Go.RowKit
open Go.Lib (hid)
def OutT (N B : Nat) (ls : List (List UInt8)) (w : World) : Prop :=
  ∃ v, w.heap[B]? = some (.cells #[v] 22 (0, 0)) ∧ w.ownsRow N 9 1 v ls.length (ls.map encS) ∧ v.ownBlock ≠ some B ∧ N ≤ B
theorem ownT_ne_box {N B n : Nat} {xs : List Value} {w : World} {v x : Value} (hB : w.heap[B]? = some (.cells #[x] 22 (0, 0))) (ho : w.ownsRow N 9 1 v n xs) : v.ownBlock ≠ some B := by
  intro he
  rcases ho.2 with ⟨rfl, _⟩ | ⟨g, cap, cur, rfl, _, hh, _⟩
  · simp [Value.ownBlock] at he
  · simp only [Value.ownBlock, Option.some.injEq] at he
    subst he
    rw [hB] at hh
    simp at hh
theorem OutT.stored {N B : Nat} {l2 : List (List UInt8)} {w w1 : World} {v v' : Value} (hbk : w.heap[B]? = some (.cells #[v] 22 (0, 0))) (hne : v.ownBlock ≠ some B) (hNB : N ≤ B)
    (hg : w.grownBy w1 v.ownBlock) (ho : w1.ownsRow N 9 1 v' l2.length (l2.map encS)) : OutT N B l2 (w1.setCell ⟨B, 0, none⟩ v') := by
  have hb : w1.heap[B]? = some (.cells #[v] 22 (0, 0)) := (hg.block B (lt_of_block hbk) (fun e => hne e.symm)).trans hbk
  have hn := ownT_ne_box hb ho
  exact ⟨v', one_setCell hb, ownsRow_setCell_other ho hn v', hn, hNB⟩
end Go.Proofs.YtgbibgppjicbgaaGreatDoor

namespace Go.Proofs.YtgbibgppjicbgaaGreatDoor
open Go.RowKit
open Go.Lib (hid)
set_option linter.unusedSimpArgs false in
set_option maxHeartbeats 1000000 in
theorem wparts_any (B : Nat) (s : List UInt8) (i : Nat) (w : World) (hi : i < s.length) (hc : w.cell? ⟨B, 0, none⟩ = some (encS s)) :
    Calls Tryz.prog 262 (#[.int .i64 i] ++ #[.pointer (some ⟨B, 0, none⟩)]) w fun e w' => e = .returned (.bool (blankW s[i])) ∧ w' = w := by
  have hb := blank_index s[i]
  obtain ⟨z, hz⟩ : ∃ z, Lib.indexByte [32, 9, 10, 13] s[i] = z := ⟨_, rfl⟩
  have cI2 : ∀ W, Calls Tryz.prog 96 #[.string ⟨#[32, 9, 10, 13]⟩, .int .u8 (s[i].toNat : Int)] W fun e w' => e = .returned (.int .i64 z) ∧ w' = W := fun W => by
    have := Tryz.strings_IndexByte ⟨#[32, 9, 10, 13]⟩ (s[i].toNat : Int) W
    rw [show ((s[i].toNat : Int).toNat.toUInt8) = s[i] by simp, show (⟨#[32, 9, 10, 13]⟩ : ByteArray).data.toList = [32, 9, 10, 13] from rfl, hz] at this
    exact this
  rw [hz] at hb
  have HB := hid hb
  clear hb hz
  go_enter Tryz.func262, Tryz.ntmps262
  go_wp2_with fail
  refine (cI2 _).mono ?_
  rintro e w1 ⟨rfl, rfl⟩
  go_wp2_with fail
  go_ret
  exact ⟨by rw [← HB.out]; rfl, rfl⟩
theorem words_le : ∀ (l : List UInt8) (b : Bool), wordsN b l ≤ l.length
  | [], _ => by simp [wordsN]
  | c :: r, b => by
    rw [wordsN]
    split
    · have := words_le r false; simp; omega
    · have := words_le r true; cases b <;> simp <;> omega
set_option linter.unusedSimpArgs false in
set_option maxHeartbeats 4000000 in
theorem count_any (s : List UInt8) (w : World) (hs : s.length ≤ 281474976710656) :
    Calls Tryz.prog 189 #[encS s] w fun e w' => e = .returned (.tuple #[.int .i64 (tensN s), .int .i64 (wordsN false s), .int .i64 s.length]) ∧ Below w.heap.size w w' := by
  obtain ⟨N, hN⟩ : ∃ N, w.heap.size = N := ⟨_, rfl⟩
  have HN := hid hN
  have hbx : Hid ((w.alloc (.cells #[encS s] 9)).heap[N]? = some (.cells #[encS s] 9 (0, 0)) ∧ Below N w (w.alloc (.cells #[encS s] 9))) := hid ⟨by rw [← hN]; exact heap_alloc_new w _, by rw [← hN]; exact (Below.refl _ _).alloc (Nat.le_refl _) _⟩
  have cC := fun W => Tryz.strings_Count_one ⟨s.toArray⟩ 10 W
  rw [show Lib.countByte (⟨s.toArray⟩ : ByteArray).data.toList 10 = tensN s from rfl] at cC
  generalize tensN s = ts at *
  obtain ⟨nt, hnt⟩ : ∃ x, wordsN false s = x := ⟨_, rfl⟩
  rw [hnt]
  have HT := hid hnt
  clear hnt
  have cP := fun i (h : i < s.length) W hc => wparts_any N s i W h hc
  go_enter Tryz.func189, Tryz.ntmps189
  go_wp2_with fail
  go_loopw [6, 11] (fun vc vi wr => ∃ (k q : Nat), k ≤ s.length ∧ vi = .int .i64 k ∧ vc = .int .i64 (wordsN false (s.take k) : Nat) ∧ Hid (wr = (w.alloc (.cells #[encS s] 9)).drewN q)) (fun _ vi _ => s.length - (intOf vi).toNat)
  case atStart => exact ⟨0, 0, Nat.zero_le _, rfl, rfl, hid rfl⟩
  case round =>
    obtain ⟨k, q, hk, rfl, rfl, HW⟩ := hrel
    have hbk : wr.heap[N]? = some (.cells #[encS s] 9 (0, 0)) := by rw [HW.out]; exact hbx.out.1
    have c0 : wr.cell? ⟨N, 0, none⟩ = some (encS s) := cell_of_one hbk
    have hbl : Hid (Below N w wr) := hid (by rw [HW.out]; exact below_drewN hbx.out.2 q)
    have hw1 := words_le (s.take k) false
    rw [List.length_take] at hw1
    by_cases hlt : k < s.length
    · have hst := words_take s k hlt
      have cA := cP k hlt
      obtain ⟨a, ha⟩ : ∃ a, blankW s[k] = a := ⟨_, rfl⟩
      rw [ha] at hst cA
      cases a with
      | true =>
        have HS : Hid (wordsN false (s.take (k + 1)) = wordsN false (s.take k)) := hid (by rw [hst, if_pos rfl]; omega)
        clear hst cP
        generalize wordsN false (s.take k) = nw at *
        go_wp2_with fail
        refine (cA _ c0).mono ?_
        rintro e w1 ⟨rfl, rfl⟩
        go_wp2_with fail
        go_roundw
        case rel => exact ⟨k + 1, q, by omega, by go_num, by rw [HS.out], HW⟩
        case measure => simp [intOf]; omega
      | false =>
        by_cases hk0 : 0 < k
        · have cB := cP (k - 1) (by omega)
          have hki : ((k : Int) - 1) = ((k - 1 : Nat) : Int) := by omega
          rw [dif_pos hk0] at hst
          obtain ⟨b, hb⟩ : ∃ b, blankW (s[k - 1]'(by omega)) = b := ⟨_, rfl⟩
          rw [hb] at hst cB
          obtain ⟨j, hj⟩ : ∃ j, k - 1 = j := ⟨_, rfl⟩
          rw [hj] at cB hki
          cases b with
          | true =>
            have HS : Hid (wordsN false (s.take (k + 1)) = wordsN false (s.take k) + 1) := hid (by rw [hst]; simp)
            clear hst cP
            generalize wordsN false (s.take k) = nw at *
            have hk1 : ((k : Int) == 0) = false := by simp; omega
            go_wp2_with fail
            refine (cA _ c0).mono ?_
            rintro e w1 ⟨rfl, rfl⟩
            go_wp2_with fail
            refine (cB _ c0).mono ?_
            rintro e w1 ⟨rfl, rfl⟩
            go_wp2_with fail
            go_roundw
            case rel => exact ⟨k + 1, q, by omega, by go_num, by rw [HS.out]; go_num, HW⟩
            case measure => simp [intOf]; omega
          | false =>
            have HS : Hid (wordsN false (s.take (k + 1)) = wordsN false (s.take k)) := hid (by rw [hst]; simp)
            clear hst cP
            generalize wordsN false (s.take k) = nw at *
            have hk1 : ((k : Int) == 0) = false := by simp; omega
            go_wp2_with fail
            refine (cA _ c0).mono ?_
            rintro e w1 ⟨rfl, rfl⟩
            go_wp2_with fail
            refine (cB _ c0).mono ?_
            rintro e w1 ⟨rfl, rfl⟩
            go_wp2_with fail
            go_roundw
            case rel => exact ⟨k + 1, q, by omega, by go_num, by rw [HS.out], HW⟩
            case measure => simp [intOf]; omega
        · obtain rfl : k = 0 := by omega
          have HS : Hid (wordsN false (s.take (0 + 1)) = wordsN false (s.take 0) + 1) := hid (by rw [hst]; simp)
          clear hst cP
          generalize wordsN false (s.take 0) = nw at *
          go_wp2_with fail
          refine (cA _ c0).mono ?_
          rintro e w1 ⟨rfl, rfl⟩
          go_wp2_with fail
          go_roundw
          case rel => exact ⟨1, q, by omega, by go_num, by rw [show (1 : Nat) = 0 + 1 from rfl, HS.out]; go_num, HW⟩
          case measure => simp [intOf]; omega
    · obtain rfl : k = s.length := by omega
      rw [List.take_length, HT.out] at hw1 ⊢
      clear cP
      go_wp2_with fail
      go_quiet ((go_at_call 263; exact Calls.quiet_of_same (cC _)))
      go_wp2_with fail
      go_ret3
      exact ⟨rfl, by rw [HN.out]; exact below_drewN hbl.out _⟩
end Go.Proofs.YtgbibgppjicbgaaGreatDoor
namespace Go.Proofs.YtgbibgppjicbgaaGreatDoor
open Go.RowKit
open Go.Lib (hid)
def FiltPost (W : World) (N B : Nat) (C : Option Addr) (c : Nat) (o : List UInt8) (st : Int) (t : List ND) (rd : Bool) (inn : List UInt8) (bad : Prop) (rest : List (List UInt8)) (F : List UInt8 → List UInt8) (e : Ending) (w' : World) : Prop :=
  Kept B W w' ∧ ((bad ∧ e = .panicked [faultU 2 0]) ∨ (¬ bad ∧ ∃ g caps, e = .returned (.func (.func g) #[] caps) ∧ (∀ args w, (callFunc g args).run Tryz.prog w = .ok (.enter g args) w) ∧ (∃ R' d', JobAt w' N B C c R' d' o st t rd rest inn) ∧
    ∀ V, Kept B w' V → ∀ s : List UInt8, s.length ≤ 137438953472 → Calls Tryz.prog g (#[encS s] ++ caps) V fun e v => e = .returned (encS (F s)) ∧ Below V.heap.size V v))
theorem box_kept {B b : Nat} {cs : Array Value} {T : TypeId} {W V : World} (h : W.heap[b]? = some (.cells cs T (0, 0))) (hb : b ≠ B) (k : Kept B W V) : V.heap[b]? = some (.cells cs T (0, 0)) := (k.block b (lt_of_block h) hb).trans h
section
variable {W : World} {N B : Nat} {C : Option Addr} {c : Nat} {R : Option Addr} {d : Nat} {o : List UInt8} {st : Int} {t : List ND} {rd : Bool} {l : List (List UInt8)} {inn : List UInt8}
theorem filt_cat (h : JobAt W N B C c R d o st t rd l inn) :
    Calls Tryz.prog 53 #[.pointer (some ⟨B, 0, none⟩), encS [99, 97, 116]] W fun e w' => FiltPost W N B C c o st t rd inn False l id e w' := by
  have H := hid h
  clear h
  have cF : ∀ (s : List UInt8) V, Calls Tryz.prog 127 (#[encS s] ++ #[]) V fun e v => e = .returned (encS (id s)) ∧ Below V.heap.size V v := fun s V => by
    show Calls _ _ #[encS s] _ _
    go_enter Tryz.func127, Tryz.ntmps127
    go_wp2_with fail
    go_ret
    exact ⟨rfl, Below.refl _ _⟩
  have HF := hid cF
  clear cF
  go_enter Tryz.func53, Tryz.ntmps53
  go_wp2_with fail
  go_ret
  exact ⟨Kept.refl _ _, .inr ⟨fun h => h, _, _, rfl, enters_of Tryz.func127 (by kernel_rfl) rfl, ⟨_, _, H.out⟩, fun V _ s _ => HF.out s V⟩⟩
def countL0 (o s : List UInt8) : List UInt8 := if o = [108] then printL (tensN s) else if o = [119] then printL (wordsN false s) else if o = [99] then printL (s.length) else printL (tensN s) ++ [32] ++ printL (wordsN false s) ++ [32] ++ printL (s.length)
theorem countL_eq (o s : List UInt8) : countL o s = countL0 o s ++ [10] := rfl
theorem tens_le (s : List UInt8) : tensN s ≤ s.length := List.count_le_length
set_option linter.unusedSimpArgs false in
set_option maxHeartbeats 4000000 in
theorem counts_any (s q : List UInt8) (w : World) (hs : s.length ≤ 137438953472) :
    Calls Tryz.prog 117 #[encS s, encS q] w fun e w' => e = .returned (encS (countL0 q s)) ∧ Below w.heap.size w w' := by
  have cC := count_any s w (by omega)
  have h1 := tens_le s
  have h2 := words_le s false
  have p1 := fun W => print_any (tensN s) (by omega) (by omega) W
  have p2 := fun W => print_any (wordsN false s) (by omega) (by omega) W
  have p3 := fun W => print_any (s.length) (by omega) (by omega) W
  have l1 := printL_len (n := tensN s) (by omega) (by omega)
  have l2 := printL_len (n := wordsN false s) (by omega) (by omega)
  have l3 := printL_len (n := (s.length : Int)) (by omega) (by omega)
  obtain ⟨V, hV⟩ : ∃ V, countL0 q s = V := ⟨_, rfl⟩
  rw [hV]
  unfold countL0 at hV
  generalize tensN s = a at *
  generalize wordsN false s = b at *
  obtain ⟨n, hn⟩ : ∃ n : Int, (s.length : Int) = n := ⟨_, rfl⟩
  rw [hn] at cC p3 l3 hV
  generalize printL a = A at *
  generalize printL b = D at *
  generalize printL n = E at *
  clear hn h1 h2
  by_cases q1 : q = [108]
  · subst q1
    rw [if_pos rfl] at hV
    subst hV
    go_enter Tryz.func117, Tryz.ntmps117
    go_wp2_with fail
    refine cC.mono ?_
    rintro e w1 ⟨rfl, hb1⟩
    go_wp2_with fail
    refine (p1 _).mono ?_
    rintro e w2 ⟨rfl, hb2⟩
    go_wp2_with fail
    go_ret
    exact ⟨rfl, hb1.trans (hb2.mono hb1.size)⟩
  rw [if_neg q1] at hV
  have e1 : (q == [108]) = false := by simpa using q1
  clear q1
  by_cases q2 : q = [119]
  · subst q2
    rw [if_pos rfl] at hV
    subst hV
    go_enter Tryz.func117, Tryz.ntmps117
    go_wp2_with fail
    refine cC.mono ?_
    rintro e w1 ⟨rfl, hb1⟩
    go_wp2_with fail
    refine (p2 _).mono ?_
    rintro e w2 ⟨rfl, hb2⟩
    go_wp2_with fail
    go_ret
    exact ⟨rfl, hb1.trans (hb2.mono hb1.size)⟩
  rw [if_neg q2] at hV
  have e2 : (q == [119]) = false := by simpa using q2
  clear q2
  by_cases q3 : q = [99]
  · subst q3
    rw [if_pos rfl] at hV
    subst hV
    go_enter Tryz.func117, Tryz.ntmps117
    go_wp2_with fail
    refine cC.mono ?_
    rintro e w1 ⟨rfl, hb1⟩
    go_wp2_with fail
    refine (p3 _).mono ?_
    rintro e w2 ⟨rfl, hb2⟩
    go_wp2_with fail
    go_ret
    exact ⟨rfl, hb1.trans (hb2.mono hb1.size)⟩
  rw [if_neg q3] at hV
  have e3 : (q == [99]) = false := by simpa using q3
  clear q3
  have HV := hid hV
  clear hV
  go_enter Tryz.func117, Tryz.ntmps117
  go_wp2_with fail
  refine cC.mono ?_
  rintro e w1 ⟨rfl, hb1⟩
  have HB1 := hid hb1
  go_wp2_with fail
  refine (p1 _).mono ?_
  rintro e w2 ⟨rfl, hb2⟩
  have HB2 := hid (HB1.out.trans (hb2.mono HB1.out.size))
  clear hb2 hb1 HB1
  go_wp2_with fail
  refine (p2 _).mono ?_
  rintro e w3 ⟨rfl, hb3⟩
  have HB3 := hid (HB2.out.trans (hb3.mono HB2.out.size))
  clear hb3 HB2
  go_wp2_with fail
  refine (p3 _).mono ?_
  rintro e w4 ⟨rfl, hb4⟩
  have HB4 := hid (HB3.out.trans (hb4.mono HB3.out.size))
  clear hb4 HB3
  go_wp2_with fail
  go_ret
  exact ⟨by rw [← HV.out]; rfl, HB4.out⟩
theorem count0_len (o s : List UInt8) (hs : s.length ≤ 137438953472) : (countL0 o s).length ≤ 100 := by
  have h1 := tens_le s
  have h2 := words_le s false
  have l1 := printL_len (n := tensN s) (by omega) (by omega)
  have l2 := printL_len (n := wordsN false s) (by omega) (by omega)
  have l3 := printL_len (n := (s.length : Int)) (by omega) (by omega)
  unfold countL0
  repeat' split
  all_goals (try simp only [List.length_append, List.length_cons, List.length_nil]); omega
set_option linter.unusedSimpArgs false in
set_option maxRecDepth 100000 in
set_option maxHeartbeats 1000000 in
theorem filt_wc (h : JobAt W N B C c R d o st t rd l inn) (hz : sizeTs l ≤ 1099511627776) :
    Calls Tryz.prog 53 #[.pointer (some ⟨B, 0, none⟩), encS [119, 99]] W fun e w' => FiltPost W N B C c o st t rd inn ((lettersL [108, 119, 99] [] l).ok = false ∨ 1 < (lettersL [108, 119, 99] [] l).out.length) (lettersL [108, 119, 99] [] l).rest (fun s => countL (lettersL [108, 119, 99] [] l).out s) e w' := by
  have cL := letters_any [108, 119, 99] (by decide) (by decide) h hz
  have hls := letters_size [108, 119, 99] l []
  generalize lettersL [108, 119, 99] [] l = q at *
  obtain ⟨qo, qr, qk⟩ := q
  simp only [List.length_nil, Nat.zero_add] at hls
  have hql : qo.length ≤ 1099511627776 := by omega
  unfold LettersPost at cL
  simp only at cL ⊢
  clear h hls
  go_enter Tryz.func53, Tryz.ntmps53
  go_wp2_with fail
  refine cL.mono ?_
  rintro e w1 (⟨rfl, rfl, hk⟩ | ⟨rfl, rfl, ⟨R', d', hJ⟩, hk⟩)
  · go_wp2_with fail
    exact ⟨rfl, hk, .inl ⟨by simp, rfl⟩⟩
  · obtain ⟨V0, hV0⟩ : ∃ V, w1.alloc (.cells #[encS qo] 9) = V := ⟨_, rfl⟩
    have hbx : V0.heap[w1.heap.size]? = some (.cells #[encS qo] 9 (0, 0)) := by rw [← hV0]; exact heap_alloc_new _ _
    have hb0 : Below w1.heap.size w1 V0 := by rw [← hV0]; exact (Below.refl _ _).alloc (Nat.le_refl _) _
    have hlt : B < w1.heap.size := hJ.lt
    have HJ := hid (hJ.below hb0)
    have HK := hid (hk.trans (Kept.of_below hb0))
    have hc0 := cell_of_one hbx
    have hqs : (⟨qo.toArray⟩ : ByteArray).size = qo.length := by simp [ByteArray.size]
    by_cases h1 : 1 < qo.length
    · have hi : decide ((qo.length : Int) ≤ 1) = false := decide_eq_false (by omega)
      clear hbx hb0 hk hJ cL
      go_wp2_with fail
      refine (must_false _).mono ?_
      rintro e w2 ⟨rfl, rfl⟩
      go_wp2_with fail
      exact ⟨rfl, HK.out, .inl ⟨by simp [h1], rfl⟩⟩
    · have hi : decide ((qo.length : Int) ≤ 1) = true := decide_eq_true (by omega)
      have HF : Hid (∀ V, Kept B V0 V → ∀ s : List UInt8, s.length ≤ 137438953472 → Calls Tryz.prog 116 (#[encS s] ++ #[.pointer (some ⟨w1.heap.size, 0, none⟩)]) V fun e v => e = .returned (encS (countL qo s)) ∧ Below V.heap.size V v) := hid fun V hk s hs => by
        have hc := cell_of_one (box_kept hbx (by omega) hk)
        have cH := counts_any s qo V hs
        have hvl := count0_len qo s hs
        rw [countL_eq]
        generalize countL0 qo s = v at *
        show Calls _ _ #[encS s, .pointer (some ⟨w1.heap.size, 0, none⟩)] _ _
        clear hbx hb0 hV0 hk HJ HK hc0
        go_enter Tryz.func116, Tryz.ntmps116
        go_wp2_with fail
        refine cH.mono ?_
        rintro e w2 ⟨rfl, hb⟩
        go_wp2_with fail
        go_ret
        exact ⟨rfl, hb⟩
      have HB := hid h1
      clear hbx hb0 hk hJ cL h1
      go_wp2_with fail
      refine (must_true _).mono ?_
      rintro e w2 ⟨rfl, rfl⟩
      go_wp2_with fail
      go_ret
      exact ⟨HK.out, .inr ⟨by rintro (h | h); cases h; exact HB.out h, _, _, rfl, enters_of Tryz.func116 (by kernel_rfl) rfl, ⟨_, _, HJ.out⟩, HF.out⟩⟩
end
end Go.Proofs.YtgbibgppjicbgaaGreatDoor
namespace Go.Proofs.YtgbibgppjicbgaaGreatDoor
open Go.RowKit
open Go.Lib (hid)
def RunJ (W : World) (N B : Nat) (t : List ND) (inn : List UInt8) (q : UQ) (e : Ending) (w' : World) : Prop :=
  Kept B W w' ∧ ((∃ st er, e = .panicked [faultU st er] ∧ q = ⟨[], st, t, false, er⟩) ∨ (e = .returned (.tuple #[]) ∧ q.err = 0 ∧ ∃ C c R d l, JobAt w' N B C c R d q.out q.st q.tree q.read l inn))
section
variable {W : World} {N B : Nat} {C : Option Addr} {c : Nat} {R : Option Addr} {d : Nat} {o : List UInt8} {st : Int} {t : List ND} {rd : Bool} {l : List (List UInt8)} {inn : List UInt8}
set_option linter.unusedSimpArgs false in
set_option maxRecDepth 100000 in
set_option maxHeartbeats 8000000 in
theorem run_filter (name : List UInt8) (hn : name = [99, 97, 116] ∨ name = [104, 101, 97, 100] ∨ name = [116, 97, 105, 108] ∨ name = [119, 99] ∨ name = [115, 111, 114, 116] ∨ name = [117, 110, 105, 113] ∨ name = [99, 117, 116] ∨ name = [114, 101, 118])
    (hok : OkT t) (hz : SizeT t) (bad : Prop) (rest : List (List UInt8)) (F : List UInt8 → List UInt8) (hl : sizeTs rest ≤ 1100000) (hi : inn.length ≤ 1100000)
    (cF : Calls Tryz.prog 53 #[.pointer (some ⟨B, 0, none⟩), encS name] W fun e w' => FiltPost W N B C c [] 0 t false inn bad rest F e w') (q : UQ) (h1 : bad → q = usageU t) (h2 : ¬ bad → (lettersL [] [] rest).ok = false → q = usageU t)
    (h3 : ¬ bad → (lettersL [] [] rest).ok = true → q = ofT t (textsU t inn (lettersL [] [] rest).rest) (F (textsU t inn (lettersL [] [] rest).rest).out)) :
    Calls Tryz.prog 23 #[.pointer (some ⟨B, 0, none⟩), encS name] W fun e w' => RunJ W N B t inn q e w' := by
  have hls := letters_size [] rest []
  have cL := fun V R d (h : JobAt V N B C c R d [] 0 t false rest inn) => letters_any [] (by decide) (by decide) h (by omega)
  generalize lettersL [] [] rest = q0 at *
  obtain ⟨qo, qr, qk⟩ := q0
  simp only [List.length_nil, Nat.zero_add] at hls
  have hqr : sizeTs qr ≤ 1100000 := by omega
  have hto := texts_out t hok inn qr
  have hqn := sizeTs_len qr
  have cT := fun V R d (h : JobAt V N B C c R d [] 0 t false qr inn) => texts_any h hok hz hqr hi
  unfold LettersPost at cL
  simp only at cL h2 h3
  generalize textsU t inn qr = tq at *
  obtain ⟨tou, trd, tst⟩ := tq
  simp only at hto cT h3
  have hto2 : tou.length ≤ 137438953472 := by omega
  have HC := hid (And.intro cL cT)
  have H1 := hid h1
  have H2 := hid h2
  have H3 := hid h3
  clear cL cT hls h1 h2 h3
  rcases hn with rfl | rfl | rfl | rfl | rfl | rfl | rfl | rfl
  all_goals
    go_enter Tryz.func23, Tryz.ntmps23
    go_wp2_with fail
    refine cF.mono ?_
    rintro e w1 ⟨hk1, ⟨hbad, rfl⟩ | ⟨hnb, g, caps, rfl, eg, ⟨R1, d1, hJ1⟩, hFn⟩⟩
    · go_wp2_with fail
      exact ⟨rfl, hk1, .inl ⟨2, 0, rfl, H1.out hbad⟩⟩
    · have cL := HC.out.1 w1 R1 d1 hJ1
      have HK1 := hid hk1
      have HF := hid hFn
      clear cF hk1 hFn hJ1
      go_wp2_with fail
      refine cL.mono ?_
      rintro e w2 (⟨rfl, rfl, hk2⟩ | ⟨rfl, rfl, ⟨R2, d2, hJ2⟩, hk2⟩)
      · go_wp2_with fail
        exact ⟨rfl, HK1.out.trans hk2, .inl ⟨2, 0, rfl, H2.out hnb (by trivial)⟩⟩
      · have cT := HC.out.2 w2 R2 d2 hJ2
        have HK2 := hid hk2
        clear cL hk2 hJ2
        go_wp2_with fail
        refine cT.mono ?_
        rintro e w3 ⟨rfl, hJ3, hk3⟩
        have cFn := HF.out w3 (HK2.out.trans hk3) tou hto2
        have HK3 := hid (HK1.out.trans (HK2.out.trans hk3))
        have HJ3 := hid hJ3
        clear cT hk3 hJ3 HF HK2 HK1
        go_wp2_with (go_at_fn g; refine cFn.mono ?_; rintro e w4 ⟨rfl, hb4⟩; have HJ4 := hid (HJ3.out.below hb4); have HK4 := hid (HK3.out.trans (Kept.of_below hb4)); have x0 := HJ4.out.cells.1; have f0 := HJ4.out.free 0; clear hb4)
        go_end0
        rw [H3.out hnb (by trivial)]
        exact ⟨HK4.out.setCell _ _, .inr ⟨rfl, rfl, _, _, _, _, _, HJ4.out.set0 _⟩⟩
end
end Go.Proofs.YtgbibgppjicbgaaGreatDoor
namespace Go.Proofs.YtgbibgppjicbgaaGreatDoor
open Go.RowKit
open Go.Lib (hid)
theorem letters_stop {l : List (List UInt8)} (h : ∀ x r, l = x :: r → optB x = false) (known o : List UInt8) : lettersL known o l = ⟨o, l, true⟩ := by
  cases l with
  | nil => rfl
  | cons x r => rw [letters_cons, h x r rfl]; rfl
theorem letters_rest (known : List UInt8) : ∀ (l : List (List UInt8)) (o : List UInt8), (lettersL known o l).ok = true → ∀ x r, (lettersL known o l).rest = x :: r → optB x = false
  | [], o, _, x, r, h => by cases h
  | y :: s, o, hok, x, r, h => by
    rw [letters_cons] at hok h
    by_cases hy : optB y = true
    · rw [if_pos hy] at hok h
      by_cases hk : (y.drop 1).all (known.contains ·) = true
      · rw [if_pos hk] at hok h
        exact letters_rest known s _ hok x r h
      · rw [if_neg hk] at hok
        cases hok
    · rw [if_neg hy] at h
      cases h
      simpa using hy
theorem letters_again {known o : List UInt8} {l : List (List UInt8)} (h : (lettersL known o l).ok = true) : lettersL [] [] (lettersL known o l).rest = ⟨[], (lettersL known o l).rest, true⟩ := letters_stop (letters_rest known l o h) [] []
section
variable {W : World} {N B : Nat} {C : Option Addr} {c : Nat} {R : Option Addr} {d : Nat} {t : List ND} {args : List (List UInt8)} {inn : List UInt8}
theorem run_cat (h : JobAt W N B C c R d [] 0 t false args inn) (hok : OkT t) (hz : SizeT t) (hl : sizeTs args ≤ 1100000) (hi : inn.length ≤ 1100000) :
    Calls Tryz.prog 23 #[.pointer (some ⟨B, 0, none⟩), encS [99, 97, 116]] W fun e w' => RunJ W N B t inn (dispU [99, 97, 116] args inn t) e w' := by
  refine run_filter _ (.inl rfl) hok hz _ _ _ hl hi (filt_cat h) _ (fun h => h.elim) (fun _ hk => ?_) (fun _ hk => ?_)
  · show textyU [99, 97, 116] t inn args = _
    unfold textyU textyQ
    rw [show textySet [99, 97, 116] = [] from rfl, hk, if_pos rfl]
    rfl
  · show textyU [99, 97, 116] t inn args = _
    unfold textyU textyQ
    rw [show textySet [99, 97, 116] = [] from rfl, hk, if_neg (by decide)]
    rfl
theorem run_wc (h : JobAt W N B C c R d [] 0 t false args inn) (hok : OkT t) (hz : SizeT t) (hl : sizeTs args ≤ 1100000) (hi : inn.length ≤ 1100000) :
    Calls Tryz.prog 23 #[.pointer (some ⟨B, 0, none⟩), encS [119, 99]] W fun e w' => RunJ W N B t inn (dispU [119, 99] args inn t) e w' := by
  have hs := letters_size [108, 119, 99] args []
  refine run_filter _ (.inr (.inr (.inr (.inl rfl)))) hok hz _ _ _ (by simp at hs; omega) hi (filt_wc h (by omega)) _ (fun hb => ?_) (fun hb hk => ?_) (fun hb hk => ?_)
  all_goals show countU t inn args = _; unfold countU
  · rw [if_pos hb]
  · have h1 : (lettersL [108, 119, 99] [] args).ok = true := by
      cases h : (lettersL [108, 119, 99] [] args).ok
      · exact absurd (.inl h) hb
      · rfl
    rw [letters_again h1] at hk
    cases hk
  · have h1 : (lettersL [108, 119, 99] [] args).ok = true := by
      cases h : (lettersL [108, 119, 99] [] args).ok
      · exact absurd (.inl h) hb
      · rfl
    rw [if_neg hb, letters_again h1]
end
end Go.Proofs.YtgbibgppjicbgaaGreatDoor
namespace Go.Proofs.YtgbibgppjicbgaaGreatDoor
open Go.RowKit
open Go.Lib (hid)
theorem setCell_same {w : World} {b k : Nat} {v : Value} (h : w.cell? ⟨b, k, none⟩ = some v) : w.setCell ⟨b, k, none⟩ v = w := by
  have hh : (w.setCell ⟨b, k, none⟩ v).heap = w.heap := by
    unfold World.setCell
    apply Array.ext_getElem?
    intro i
    rw [Array.getElem?_modify]
    by_cases hi : b = i
    · subst hi
      rw [if_pos rfl]
      cases hg : w.heap[b]? with
      | none => rfl
      | some ob =>
        cases ob with
        | cells c t f =>
          have hc : c[k]? = some v := by simpa [World.cell?, hg] using h
          have he : c.setIfInBounds k v = c := by
            apply Array.ext_getElem?
            intro j
            rw [Array.getElem?_setIfInBounds]
            by_cases hj : k = j
            · subst hj
              obtain ⟨h1, -⟩ := Array.getElem?_eq_some_iff.1 hc
              rw [if_pos rfl, if_pos h1, hc]
            · rw [if_neg hj]
          simp only [Option.map_some]
          rw [if_neg (by simp), he]
        | _ => rfl
    · rw [if_neg hi]
  have e : w.setCell ⟨b, k, none⟩ v = { w with heap := (w.setCell ⟨b, k, none⟩ v).heap } := rfl
  rw [e, hh]
theorem nodes_news {w : World} {g o : Nat} {t : List ND} (hT : NodesP w (fun _ => True) (some ⟨g, o, none⟩) t) : ∀ j u, (t.flatMap cellsN)[j]? = some u → w.cell? ((⟨g, o, none⟩ : Addr).add j) = some u := fun j u hj => by
  have hlen : (t.flatMap cellsN).length = t.length * 3 := by
    clear hT hj
    induction t with
    | nil => rfl
    | cons n r ih => rw [List.flatMap_cons, List.length_append, ih, List.length_cons]; simp [cellsN]; omega
  have hjl : j < t.length * 3 := by rw [← hlen]; exact (List.getElem?_eq_some_iff.1 hj).1
  have hk : j / 3 < t.length := by omega
  rw [show j = j / 3 * 3 + j % 3 by omega, flat_getN t (j / 3) hk (j % 3) (by omega)] at hj
  obtain ⟨g2, o2, e, -, c0, c1, c2⟩ := hT (j / 3) hk
  cases e
  rw [add_at, show g = g from rfl]
  have hm : j % 3 = 0 ∨ j % 3 = 1 ∨ j % 3 = 2 := by omega
  rcases hm with hm | hm | hm
  · rw [hm] at hj
    rw [show o + j = o + j / 3 * 3 by omega, c0]
    exact hj
  · rw [hm] at hj
    rw [show o + j = o + j / 3 * 3 + 1 by omega, c1]
    exact hj
  · rw [hm] at hj
    rw [show o + j = o + j / 3 * 3 + 2 by omega, c2]
    exact hj
theorem flat_len (t : List ND) : (t.flatMap cellsN).length = t.length * 3 := by
  induction t with
  | nil => rfl
  | cons n r ih => rw [List.flatMap_cons, List.length_append, ih, List.length_cons]; simp [cellsN]; omega
set_option linter.unusedSimpArgs false in
set_option maxRecDepth 100000 in
set_option maxHeartbeats 2000000 in
theorem nclone_any (A : Option Addr) (c : Nat) (t : List ND) (w : World) (hT : NodesP w (fun _ => True) A t) (hl : t.length ≤ 1099511627776) :
    Calls Tryz.prog 47 #[.slice A t.length c] w fun e w' => ∃ C c', e = .returned (.slice C t.length c') ∧ OwnN w' w.heap.size C c' t ∧ Below w.heap.size w w' := by
  have q24 : ∀ (w : World) (a : Option Addr) (n c n' c' : Nat), (binOp .eql 23 (.slice a n c) (.slice none n' c')).run Tryz.prog w = .ok (.bool a.isNone) w := fun w a n c n' c' => Lib.run_eql_slice_nil w _ _ a n c n' c' Tryz.underlying23
  cases A with
  | none =>
    have ht : t = [] := by
      cases t with
      | nil => rfl
      | cons n r => obtain ⟨g, o, e, -⟩ := hT 0 (by simp); cases e
    subst ht
    go_enter Tryz.func47, Tryz.ntmps47
    go_wp2_with fail
    go_ret
    exact ⟨none, 0, rfl, World.ownsRow_nil _ _ _ _, Below.refl _ _⟩
  | some ad =>
    obtain ⟨i0, hi, hz0, hz1, hz2⟩ : ∃ i0, Tryz.prog.info? 58 = some i0 ∧ i0.zero = some (.agg #[.string .empty, .bool false, .string .empty]) ∧ i0.size = 3 ∧ i0.bytes = 40 := info_parts info_node
    have hnews : ∀ W, Below w.heap.size w W → ∀ j u, (t.flatMap cellsN)[j]? = some u → W.cell? (ad.add j) = some u := fun W hb j u hj => by
      cases t with
      | nil => cases j <;> cases hj
      | cons n r =>
        obtain ⟨g, o, e, -⟩ := hT 0 (by simp)
        cases e
        exact cell_below hb (nodes_news hT j u hj)
    have h1c : ∀ u ∈ t.flatMap cellsN, u.oneCell' = true := fun u hu => by
      obtain ⟨n, -, hn⟩ := List.mem_flatMap.1 hu
      simp [cellsN] at hn
      rcases hn with rfl | rfl | rfl <;> rfl
    clear hT
    go_enter Tryz.func47, Tryz.ntmps47
    go_wp2_with (at_builtin; refine wpList_append_own _ rfl _ _ 23 rfl w.heap.size 58 i0 _ 3 40 Tryz.underlying23 hi hz0 hz1 hz2 rfl (by decide) _ _ _ rfl (World.ownsRow_made w #[] 0 (Nat.le_refl _) (Nat.zero_le _) rfl) ad t.length c (t.flatMap cellsN) rfl (flat_len t) (hnews _ ((Below.refl _ _).alloc (Nat.le_refl _) _)) h1c (by unfold maxLen; omega) (by omega) (by simp) ?_)
    intro v' w1 hown hg hnil
    have hb := ((Below.refl w.heap.size w).alloc (Nat.le_refl _) (.cells #[] 58)).grown hg (by simp) (by intro k hk; simp [Value.ownBlock] at hk; omega)
    obtain ⟨g, cap, rfl⟩ : ∃ g cap, v' = .slice (some ⟨g, 0, none⟩) t.length cap := by
      rcases hown.2 with ⟨e, -⟩ | ⟨g, cap, cur, e, -⟩
      · exact absurd e (by simpa using hnil)
      · exact ⟨g, cap, by simpa using e⟩
    have HO := hid (show OwnN w1 w.heap.size (some ⟨g, 0, none⟩) cap t by unfold OwnN; simpa using hown)
    clear hown hg hnil hnews h1c
    go_wp2_with fail
    go_ret
    exact ⟨_, _, rfl, HO.out, hb⟩
theorem OwnN.row {w : World} {N : Nat} {a : Option Addr} {c : Nat} {ys : List ND} (h : OwnN w N a c ys) (k : Nat) (hk : k < ys.length) : ∃ g, a = some ⟨g, 0, none⟩ ∧ N ≤ g ∧ g < w.heap.size ∧ (∀ j, w.frozen? ⟨g, j, none⟩ = false) ∧ w.cell? ⟨g, k * 3, none⟩ = some (encS ys[k].p) ∧ w.cell? ⟨g, k * 3 + 1, none⟩ = some (.bool ys[k].d) ∧ w.cell? ⟨g, k * 3 + 2, none⟩ = some (encS ys[k].x) := by
  obtain ⟨g, o, e, hN, c0, c1, c2⟩ := h.nodes k hk
  rcases h.2 with ⟨hv, h0⟩ | ⟨g2, cap, cur, hv, h1, h2, h3⟩
  · omega
  · cases hv
    cases e
    simp only [Nat.zero_add] at c0 c1 c2
    exact ⟨g, rfl, h1, lt_of_block h2, fun j => by simp [World.frozen?, h2], c0, c1, c2⟩
theorem OwnN.cap {w : World} {N : Nat} {a : Option Addr} {c : Nat} {ys : List ND} (h : OwnN w N a c ys) : ys.length ≤ c := by
  rcases h.2 with ⟨hv, h0⟩ | ⟨g2, cap, cur, hv, h1, h2, h3, -⟩
  · omega
  · cases hv
    exact h3
set_option linter.unusedSimpArgs false in
set_option maxRecDepth 100000 in
set_option maxHeartbeats 4000000 in
theorem ucopied_any (A : Option Addr) (c : Nat) (t : List ND) (w : World) (hT : NodesP w (fun _ => True) A t) (hl : t.length ≤ 1099511627776) (hz : ∀ n ∈ t, n.p.length ≤ 274877906944 ∧ n.x.length ≤ 274877906944) :
    Calls Tryz.prog 22 #[.slice A t.length c] w fun e w' => ∃ C c', e = .returned (.slice C t.length c') ∧ OwnN w' w.heap.size C c' t ∧ Below w.heap.size w w' := by
  have cN := nclone_any A c t w hT hl
  clear hT
  obtain ⟨N, hN⟩ : ∃ N, w.heap.size = N := ⟨_, rfl⟩
  rw [hN] at cN ⊢
  go_enter Tryz.func22, Tryz.ntmps22
  go_wp2_with fail
  refine cN.mono ?_
  rintro e w1 ⟨C, c', rfl, hO, hb⟩
  have HI := hid (And.intro hO hb)
  clear cN hO hb
  go_wp2_with fail
  go_loopw [10, 4, 5] (fun vi _ _ wr => ∃ k : Nat, vi = .int .i64 k ∧ k ≤ t.length ∧ Hid (OwnN wr N C c' t) ∧ Hid (Below N w1 wr)) (fun vi _ _ _ => t.length - (intOf vi).toNat)
  case atStart => exact ⟨0, rfl, Nat.zero_le _, hid HI.out.1, hid (Below.refl _ _)⟩
  case round =>
    obtain ⟨k, rfl, hk, HO, HB⟩ := hrel
    by_cases hlt : k < t.length
    · obtain ⟨g, rfl, hg1, hg2, hfz, c0, c1, c2⟩ := HO.out.row k hlt
      have hsz := hz _ (List.getElem_mem hlt)
      have hkz : (k : Int) < (t.length : Int) := by omega
      obtain ⟨n, hn⟩ : ∃ n, t[k] = n := ⟨_, rfl⟩
      rw [hn] at hsz c0 c1 c2
      obtain ⟨p, dd, x⟩ := n
      simp only at c0 c1 c2 hsz
      have cP := fun W => clone_any p (by omega) W
      have cX := fun W => clone_any x (by omega) W
      obtain ⟨W0, hW0⟩ : ∃ W0, wr.alloc (.cells #[encS p, .bool dd, encS x] 58) = W0 := ⟨_, rfl⟩
      have hA : Below wr.heap.size wr W0 := by rw [← hW0]; exact (Below.refl _ _).alloc (Nat.le_refl _) _
      have hbx : W0.heap[wr.heap.size]? = some (.cells #[encS p, .bool dd, encS x] 58 (0, 0)) := by rw [← hW0]; exact heap_alloc_new _ _
      have hS : Cells [(⟨wr.heap.size, 0, none⟩, encS p), (⟨wr.heap.size, 2, none⟩, encS x)] W0.drew := fun z hz => by
        rcases List.mem_cons.1 hz with rfl | hz
        · exact (Lib.cell_of_heap hbx 0).trans rfl
        rcases List.mem_cons.1 hz with rfl | hz
        · exact (Lib.cell_of_heap hbx 2).trans rfl
        · cases hz
      have HA := hid hA
      have HN : Hid (N ≤ wr.heap.size) := hid (by have := HB.out.size; have := HI.out.2.size; omega)
      have HR : Hid (∀ V, OwnN V N (some ⟨g, 0, none⟩) c' t → (V.cell? ⟨g, k * 3, none⟩ = some (encS p) ∧ V.setCell ⟨g, k * 3, none⟩ (encS p) = V) ∧ (V.cell? ⟨g, k * 3 + 2, none⟩ = some (encS x) ∧ V.setCell ⟨g, k * 3 + 2, none⟩ (encS x) = V) ∧ ∀ j, V.frozen? ⟨g, j, none⟩ = false) := hid fun V h => by
        obtain ⟨g2, e, -, -, hf, d0, -, d2⟩ := h.row k hlt
        cases e
        rw [hn] at d0 d2
        exact ⟨⟨d0, setCell_same d0⟩, ⟨d2, setCell_same d2⟩, hf⟩
      clear hA hbx hn hz
      go_wp2_with fail
      refine wp_region_held_drew (S := Cells [(⟨wr.heap.size, 0, none⟩, encS p), (⟨wr.heap.size, 2, none⟩, encS x)]) (by kernel_rfl) hS (fun _ => ?_)
      -- REGION
      refine takeH (i := 0) (d := some 15) (v := .slice (some ⟨g, 0, none⟩) t.length c') rfl rfl (by kernel_rfl) (by kernel_rfl) (by kernel_rfl) (fun _ _ _ h => h) (Or.inl ⟨by rfl, fun w' _ => by go_simp⟩) hS ?_
      try simp only [Act.put, List.setIfInBounds_toArray, List.set_cons_zero, List.set_cons_succ]
      refine takeH (i := 1) (d := some 16) (v := .int .i64 k) rfl rfl (by kernel_rfl) (by kernel_rfl) (by kernel_rfl) (fun _ _ _ h => h) (Or.inl ⟨by rfl, fun w' _ => by go_simp⟩) hS ?_
      try simp only [Act.put, List.setIfInBounds_toArray, List.set_cons_zero, List.set_cons_succ]
      refine takeH (i := 2) (d := some 17) (v := .slice (some ⟨g, 0, none⟩) t.length c') rfl rfl (by kernel_rfl) (by kernel_rfl) (by kernel_rfl) (fun _ _ _ h => h) (Or.inl ⟨by rfl, fun w' _ => by go_simp⟩) hS ?_
      try simp only [Act.put, List.setIfInBounds_toArray, List.set_cons_zero, List.set_cons_succ]
      refine takeH (i := 3) (d := some 18) (v := .int .i64 k) rfl rfl (by kernel_rfl) (by kernel_rfl) (by kernel_rfl) (fun _ _ _ h => h) (Or.inl ⟨by rfl, fun w' _ => by go_simp⟩) hS ?_
      try simp only [Act.put, List.setIfInBounds_toArray, List.set_cons_zero, List.set_cons_succ]
      refine takeH (i := 4) (d := some 19) (v := .pointer (some ⟨wr.heap.size, 0, none⟩)) rfl rfl (by kernel_rfl) (by kernel_rfl) (by kernel_rfl) (fun _ _ _ h => h) (Or.inl ⟨by rfl, fun w' _ => by go_simp⟩) hS ?_
      try simp only [Act.put, List.setIfInBounds_toArray, List.set_cons_zero, List.set_cons_succ]
      refine takeH (i := 5) (d := some 20) (v := encS p) rfl rfl (by kernel_rfl) (by kernel_rfl) (by kernel_rfl) (fun _ _ _ h => h) (Or.inl ⟨by rfl, fun w' hS' => by have s0 := hS' _ (.head _); dsimp only at s0; go_simp⟩) hS ?_
      try simp only [Act.put, List.setIfInBounds_toArray, List.set_cons_zero, List.set_cons_succ]
      refine takeH (i := 7) (d := some 22) (v := .pointer (some ⟨wr.heap.size, 2, none⟩)) rfl rfl (by kernel_rfl) (by kernel_rfl) (by kernel_rfl) (fun _ _ _ h => h) (Or.inl ⟨by rfl, fun w' _ => by go_simp⟩) hS ?_
      try simp only [Act.put, List.setIfInBounds_toArray, List.set_cons_zero, List.set_cons_succ]
      refine takeH (i := 8) (d := some 23) (v := encS x) rfl rfl (by kernel_rfl) (by kernel_rfl) (by kernel_rfl) (fun _ _ _ h => h) (Or.inl ⟨by rfl, fun w' hS' => by have s1 := hS' _ (.tail _ (.head _)); dsimp only at s1; go_simp⟩) hS ?_
      try simp only [Act.put, List.setIfInBounds_toArray, List.set_cons_zero, List.set_cons_succ]
      refine wpAnyH_ready (rs := [6]) (by kernel_rfl) (by simp) (AllReadyH.cons rfl (fun K hK => ?_) AllReadyH.nil)
      go_simp
      go_at_call 31
      refine (cP W0.drew).mono ?_
      rintro e w2 ⟨rfl, hb1⟩
      have hS1 := hS.below hb1
      go_wp2_with fail
      refine hK.out _ _ hS1 (fun _ => ?_)
      clear hK K
      try simp only [Act.put, List.setIfInBounds_toArray, List.set_cons_zero, List.set_cons_succ]
      refine wpAnyH_ready (rs := [9]) (by kernel_rfl) (by simp) (AllReadyH.cons rfl (fun K hK => ?_) AllReadyH.nil)
      go_simp
      go_at_call 31
      refine (cX w2).mono ?_
      rintro e w3 ⟨rfl, hb2⟩
      have hS2 := hS1.below hb2
      have hb12 := (Below.refl _ W0).drew.trans (hb1.trans (hb2.mono hb1.size))
      have HO3 := hid (HO.out.kept (HA.out.trans (hb12.mono HA.out.size)))
      obtain ⟨e0, e2, f3⟩ := HR.out w3 HO3.out
      have HB3 := hid (HB.out.trans ((HA.out.trans (hb12.mono HA.out.size)).mono HN.out))
      clear hb1 hb2 hb12 cP cX
      go_wp2_with fail
      refine hK.out _ _ hS2 (fun _ => ?_)
      clear hK K
      try simp only [Act.put, List.setIfInBounds_toArray, List.set_cons_zero, List.set_cons_succ]
      refine takeH (i := 10) (d := some 25) (v := .pointer (some ⟨g, k * 3, none⟩)) rfl rfl (by kernel_rfl) (by kernel_rfl) (by kernel_rfl) (fun _ _ _ h => h) (Or.inl ⟨by rfl, fun w' _ => by go_simp⟩) hS2 ?_
      try simp only [Act.put, List.setIfInBounds_toArray, List.set_cons_zero, List.set_cons_succ]
      refine takeH (i := 11) (d := some 26) (v := .pointer (some ⟨g, k * 3, none⟩)) rfl rfl (by kernel_rfl) (by kernel_rfl) (by kernel_rfl) (fun _ _ _ h => h) (Or.inl ⟨by rfl, fun w' _ => by go_simp⟩) hS2 ?_
      try simp only [Act.put, List.setIfInBounds_toArray, List.set_cons_zero, List.set_cons_succ]
      refine wpAnyH_ready (rs := [12]) (by kernel_rfl) (by simp) (AllReadyH.cons rfl (fun K hK => ?_) AllReadyH.nil)
      have f0 := f3 (k * 3)
      have d0 := e0.1
      have g0 := e0.2
      go_simp
      refine hK.out _ _ hS2 (fun _ => ?_)
      clear hK K
      try simp only [Act.put, List.setIfInBounds_toArray, List.set_cons_zero, List.set_cons_succ]
      refine takeH (i := 13) (d := some 27) (v := .pointer (some ⟨g, k * 3, none⟩)) rfl rfl (by kernel_rfl) (by kernel_rfl) (by kernel_rfl) (fun _ _ _ h => h) (Or.inl ⟨by rfl, fun w' _ => by go_simp⟩) hS2 ?_
      try simp only [Act.put, List.setIfInBounds_toArray, List.set_cons_zero, List.set_cons_succ]
      refine takeH (i := 14) (d := some 28) (v := .pointer (some ⟨g, k * 3 + 2, none⟩)) rfl rfl (by kernel_rfl) (by kernel_rfl) (by kernel_rfl) (fun _ _ _ h => h) (Or.inl ⟨by rfl, fun w' _ => by go_simp⟩) hS2 ?_
      try simp only [Act.put, List.setIfInBounds_toArray, List.set_cons_zero, List.set_cons_succ]
      refine wpAnyH_ready (rs := [15]) (by kernel_rfl) (by simp) (AllReadyH.cons rfl (fun K hK => ?_) AllReadyH.nil)
      have f0 := f3 (k * 3 + 2)
      have d0 := e2.1
      have g0 := e2.2
      go_simp
      refine hK.out _ _ hS2 (fun _ => ?_)
      clear hK K
      try simp only [Act.put, List.setIfInBounds_toArray, List.set_cons_zero, List.set_cons_succ]
      refine wpAnyH_done (by kernel_rfl) ?_ _
      clear hS hS1 hS2 HR e0 e2 f3
      go_wp2_with fail
      go_roundw
      case rel => exact ⟨k + 1, by go_num, by omega, HO3, HB3⟩
      case measure => simp [intOf]; omega
      -- END
    · obtain rfl : k = t.length := by omega
      have hkz : ¬ (t.length : Int) < (t.length : Int) := by omega
      go_wp2_with fail
      go_ret
      exact ⟨_, _, rfl, HO.out, HI.out.2.trans HB.out⟩
end Go.Proofs.YtgbibgppjicbgaaGreatDoor

namespace Go.Proofs.YtgbibgppjicbgaaGreatDoor
open Go.RowKit
theorem s2 : (0 : Int) ≤ 2 ∧ (2 : Int) ≤ 2 := by decide
theorem s0 : (0 : Int) ≤ 0 ∧ (0 : Int) ≤ 2 := by decide
theorem s1 : (0 : Int) ≤ 1 ∧ (1 : Int) ≤ 2 := by decide
theorem s01 : (0 : Int) ≤ 0 ∧ (0 : Int) ≤ 1 := by decide
theorem s11 : (0 : Int) ≤ 1 ∧ (1 : Int) ≤ 1 := by decide
structure FineU (t : List ND) (f : List UInt8 → UQ) : Prop where
  tree : ∀ inn, OkT (f inn).tree
  err : ∀ inn, (f inn).err = 0 ∨ ((f inn).err = 17 ∧ (f inn).out = [])
  read : ∀ inn, (f inn).read = false → ∀ other, f other = f inn
  st : ∀ inn, (f inn).read = false → 0 ≤ (f inn).st ∧ (f inn).st ≤ 2
theorem fine_const {t : List ND} {q : UQ} (h : OkT q.tree) (he : q.err = 0 ∨ (q.err = 17 ∧ q.out = [])) (hs : 0 ≤ q.st ∧ q.st ≤ 2) : FineU t fun _ => q := ⟨fun _ => h, fun _ => he, fun _ _ _ => rfl, fun _ _ => hs⟩
theorem fine_usage {t : List ND} (h : OkT t) : FineU t fun _ => usageU t := fine_const h (.inl rfl) s2
theorem fine_tell {t t' : List ND} {out : List UInt8} {st : Int} (h : OkT t') (hs : 0 ≤ st ∧ st ≤ 2) : FineU t fun _ => tellU t' out st := fine_const h (.inl rfl) hs
theorem texts_fold_read (t : List ND) : ∀ (l : List (List UInt8)) (q : TQ) (inn : List UInt8), (l.foldl (textsStep t inn) q).read = false → q.read = false ∧ ∀ other, l.foldl (textsStep t other) q = l.foldl (textsStep t inn) q
  | [], q, inn, h => ⟨h, fun _ => rfl⟩
  | x :: l, q, inn, h => by
    rw [List.foldl_cons] at h
    obtain ⟨h1, h2⟩ := texts_fold_read t l _ inn h
    have hx : x ≠ [45] := fun e => by rw [show textsStep t inn q x = ⟨if q.read then q.out else q.out ++ inn, true, q.st⟩ by unfold textsStep; rw [if_pos e]] at h1; cases h1
    have he : ∀ other, textsStep t other q x = textsStep t inn q x := fun other => by unfold textsStep; rw [if_neg hx, if_neg hx]
    refine ⟨?_, fun other => ?_⟩
    · unfold textsStep at h1
      rw [if_neg hx] at h1
      exact h1
    · rw [List.foldl_cons, List.foldl_cons, he other]
      exact h2 other
theorem texts_read (t : List ND) (l : List (List UInt8)) (inn : List UInt8) (h : (textsU t inn l).read = false) (other : List UInt8) : textsU t other l = textsU t inn l := by
  unfold textsU at h ⊢
  by_cases hl : l = []
  · rw [if_pos hl] at h; cases h
  · rw [if_neg hl] at h ⊢
    rw [if_neg hl]
    exact (texts_fold_read t l _ inn h).2 other
theorem texts_st (t : List ND) (inn : List UInt8) (l : List (List UInt8)) : 0 ≤ (textsU t inn l).st ∧ (textsU t inn l).st ≤ 1 := by
  have key : ∀ (l : List (List UInt8)) (q : TQ), 0 ≤ q.st ∧ q.st ≤ 1 → 0 ≤ (l.foldl (textsStep t inn) q).st ∧ (l.foldl (textsStep t inn) q).st ≤ 1 := fun l => by
    induction l with
    | nil => intro q h; exact h
    | cons x l ih =>
      intro q h
      rw [List.foldl_cons]
      refine ih _ ?_
      unfold textsStep
      split
      · exact h
      · simp only
        split <;> omega
  unfold textsU
  split
  · exact s01
  · exact key l _ s01
theorem fine_texts {t : List ND} (h : OkT t) (l : List (List UInt8)) (f : List UInt8 → List UInt8) : FineU t fun inn => ofT t (textsU t inn l) (f (textsU t inn l).out) :=
  ⟨fun _ => h, fun _ => .inl rfl, fun inn hr other => by simp only [texts_read t l inn hr other], fun inn _ => by have := texts_st t inn l; simp only [ofT]; omega⟩
theorem fine_texty {t : List ND} (h : OkT t) (name : List UInt8) (args : List (List UInt8)) : FineU t fun inn => textyU name t inn args := by
  unfold textyU textyQ
  cases hk : (lettersL (textySet name) [] args).ok
  · simp only [if_pos]
    exact fine_const h (.inl rfl) s2
  · simp only [Bool.true_eq_false, if_false]
    exact fine_texts h _ fun s => textyF name (lettersL (textySet name) [] args).out s
theorem fine_lines {t : List ND} (h : OkT t) (tail : Bool) (args : List (List UInt8)) : FineU t fun inn => linesU tail t inn args := by
  unfold linesU
  by_cases hc : (linesA args).1 < 0 ∨ (lettersL [] [] (linesA args).2).ok = false
  · simp only [if_pos hc]; exact fine_usage h
  · simp only [if_neg hc]
    exact fine_texts h _ fun s => if tail then lastL3 s (linesA args).1 else headL s (linesA args).1
theorem fine_count {t : List ND} (h : OkT t) (args : List (List UInt8)) : FineU t fun inn => countU t inn args := by
  unfold countU
  by_cases hc : (lettersL [108, 119, 99] [] args).ok = false ∨ 1 < (lettersL [108, 119, 99] [] args).out.length
  · simp only [if_pos hc]; exact fine_usage h
  · simp only [if_neg hc]
    exact fine_texts h _ fun s => countL _ s
theorem fine_swaps {t : List ND} (h : OkT t) (args : List (List UInt8)) : FineU t fun inn => swapsU t inn args := by
  have hsame : ∀ inn other, (swapsA inn args).2 = false → swapsA other args = swapsA inn args := fun inn other hf => by
    unfold swapsA at hf ⊢
    split at hf
    · split at hf
      · rename_i a b ha
        subst ha
        simp only [if_true]
        unfold delT at hf ⊢
        split at hf
        · rename_i hs; rw [if_pos hs, if_pos hs]
        · cases hf
      · rename_i a b ha
        rw [if_neg ha, if_neg ha]
        unfold transT at hf ⊢
        split at hf
        · rename_i hs; rw [if_pos hs, if_pos hs]
        · cases hf
    · rfl
  refine ⟨fun inn => ?_, fun inn => ?_, fun inn hr other => ?_, fun inn hr => ?_⟩
  all_goals unfold swapsU at *
  · split <;> exact h
  · split <;> exact .inl rfl
  · split at hr
    · rename_i hf
      rw [hsame inn other hf]
    · cases hr
  · split
    · exact s2
    · exact s0
theorem fine_cut {t : List ND} (h : OkT t) (args : List (List UInt8)) : FineU t fun inn => cutU t inn args := by
  unfold cutU
  split
  · rename_i a m c d r
    by_cases hc : a ≠ [45, 100] ∨ c ≠ [45, 102] ∨ numO d < 1 ∨ (lettersL [] [] r).ok = false
    · simp only [if_pos hc]; exact fine_usage h
    · simp only [if_neg hc]
      exact fine_texts h _ fun s => cutT s m (numO d)
  · exact fine_usage h
theorem remQ_ok {t : List ND} {x : List UInt8} {r : Bool} (h : (remQ t x r).2 = 0) (ht : OkT t) : OkT (remQ t x r).1 := by
  unfold remQ at h ⊢
  split at h
  · rename_i h1; exact absurd h h1
  · rename_i h1
    rw [if_neg h1]
    split at h
    · cases h
    · rename_i h2
      rw [if_neg h2]
      split at h
      · cases h
      · rename_i h3
        rw [if_neg h3]
        exact okT_out ht (fun e => h3 (.inl e)) (pathL_ne x)
theorem rm_fold (r f : Bool) : ∀ (l : List (List UInt8)) (q : List ND × Int), OkT q.1 → 0 ≤ q.2 ∧ q.2 ≤ 1 → OkT (l.foldl (remS r f) q).1 ∧ 0 ≤ (l.foldl (remS r f) q).2 ∧ (l.foldl (remS r f) q).2 ≤ 1
  | [], _, h, hs => ⟨h, hs⟩
  | x :: l, q, h, hs => by
    rw [List.foldl_cons]
    refine rm_fold r f l _ ?_ ?_
    · unfold remS
      split
      · rename_i h1; exact remQ_ok h1 h
      · split <;> exact h
    · unfold remS
      split
      · exact hs
      · split
        · exact s11
        · exact hs
theorem fine_rm {t : List ND} (h : OkT t) (args : List (List UInt8)) : FineU t fun _ => rmU t args := by
  unfold rmU
  split
  · exact fine_usage h
  · obtain ⟨h1, h2, h3⟩ := rm_fold ((lettersL [102, 114] [] args).out.contains 114) ((lettersL [102, 114] [] args).out.contains 102) (lettersL [102, 114] [] args).rest (t, 0) h s01
    exact fine_tell h1 ⟨h2, by omega⟩
theorem mkQ_ok {t : List ND} {x : List UInt8} (h : (mkQ t x).2 = 0) : OkT (mkQ t x).1 := by
  unfold mkQ at h ⊢
  split at h
  · rename_i h1; exact absurd h h1
  · rename_i h1
    rw [if_neg h1]
    split at h
    · cases h
    · rename_i h2
      rw [if_neg h2]
      split at h
      · rename_i h3; exact absurd h h3
      · rename_i h3
        rw [if_neg h3]
        obtain ⟨ht, hx⟩ := askQ_of (Classical.not_not.1 h1)
        have h2' : kindL t (pathL x) = 0 := Classical.not_not.1 h2
        have h3' : roomL t (pathL x) = 0 := Classical.not_not.1 h3
        rcases fitsQ_cases (withL t ⟨pathL x, true, []⟩) with ⟨⟨l1, l2⟩, e⟩ | ⟨-, e⟩
        · rw [e]
          rw [withL_ins] at l1 l2 ⊢
          exact okT_ins (n := ⟨pathL x, true, []⟩) ht (by rw [h2']; decide) ⟨pathL_free hx.1, pathL_ne x⟩ (path_path x) (fun _ => rfl) (room_zero h3') l1 l2
        · rw [e] at h; cases h
def OkS (q : Option (List ND × Int)) : Prop := ∀ t s, q = some (t, s) → OkT t ∧ 0 ≤ s ∧ s ≤ 1
theorem mk_fold (p : Bool) : ∀ (l : List (List UInt8)) (q : Option (List ND × Int)), OkS q → OkS (l.foldl (mkS p) q)
  | [], _, h => h
  | x :: l, q, h => by
    rw [List.foldl_cons]
    refine mk_fold p l _ ?_
    intro t s e
    cases q with
    | none => cases e
    | some q =>
      obtain ⟨t0, s0'⟩ := q
      obtain ⟨h1, h2, h3⟩ := h t0 s0' rfl
      simp only [mkS] at e
      split at e
      · rename_i hz
        cases e
        exact ⟨mkQ_ok hz, h2, h3⟩
      · split at e
        · cases e
        · split at e <;> cases e
          · exact ⟨h1, s11⟩
          · exact ⟨h1, h2, h3⟩
theorem touch_fold : ∀ (l : List (List UInt8)) (q : Option (List ND × Int)), OkS q → OkS (l.foldl touchS q)
  | [], _, h => h
  | x :: l, q, h => by
    rw [List.foldl_cons]
    refine touch_fold l _ ?_
    intro t s e
    cases q with
    | none => cases e
    | some q =>
      obtain ⟨t0, s0'⟩ := q
      obtain ⟨h1, h2, h3⟩ := h t0 s0' rfl
      simp only [touchS] at e
      split at e
      · cases e; exact ⟨h1, h2, h3⟩
      · split at e
        · rename_i hz
          cases e
          obtain ⟨-, -, -, e1, e2⟩ := putQ_ok hz
          exact ⟨by rw [e1]; exact e2, h2, h3⟩
        · split at e
          · cases e
          · cases e; exact ⟨h1, s11⟩
theorem fine_full {t : List ND} (h : OkT t) (q : Option (List ND × Int)) (hq : OkS q) : FineU t fun _ => fullU t q := by
  cases q with
  | none => exact fine_const h (.inr ⟨rfl, rfl⟩) s1
  | some q =>
    obtain ⟨t', s⟩ := q
    obtain ⟨h1, h2, h3⟩ := hq t' s rfl
    exact fine_tell h1 ⟨h2, by omega⟩
theorem okS_start {t : List ND} (h : OkT t) : OkS (some (t, 0)) := fun t' s e => by cases e; exact ⟨h, s01⟩
theorem fine_mk {t : List ND} (h : OkT t) (args : List (List UInt8)) : FineU t fun _ => mkU t args := by
  unfold mkU
  split
  · exact fine_usage h
  · exact fine_full h _ (mk_fold _ _ _ (okS_start h))
theorem fine_touch {t : List ND} (h : OkT t) (args : List (List UInt8)) : FineU t fun _ => touchU t args := by
  unfold touchU
  split
  · exact fine_usage h
  · exact fine_full h _ (touch_fold _ _ (okS_start h))
theorem fine_seq {t : List ND} (h : OkT t) (args : List (List UInt8)) : FineU t fun _ => seqU t args := by
  have hs : ∀ a b, FineU t fun _ => seqE a b t := fun a b => by
    unfold seqE
    split
    · exact fine_usage h
    · exact fine_tell h s0
  unfold seqU
  split
  · exact hs _ _
  · exact hs _ _
  · exact fine_usage h
theorem fine_base {t : List ND} (h : OkT t) (dir : Bool) (args : List (List UInt8)) : FineU t fun _ => baseU dir t args := by
  unfold baseU
  split
  · exact fine_tell h s0
  · exact fine_usage h
theorem fine_expr {t : List ND} (h : OkT t) (args : List (List UInt8)) : FineU t fun _ => exprU t args := by
  unfold exprU
  split
  · split
    · rename_i c hc
      cases c
      · exact fine_tell h s1
      · exact fine_tell h s0
    · split
      · split
        · rename_i n hn
          refine fine_tell h ?_
          split
          · exact s1
          · exact s0
        · exact fine_usage h
      · exact fine_usage h
  · exact fine_usage h
theorem conv_st (x : Sp) (a : List UInt8) : (toldL x a).2 ≤ 1 := by
  unfold toldL
  repeat' split
  all_goals first | exact Nat.le_refl _ | exact Nat.zero_le _ | (simp only; omega) | simp
theorem ahead_st {l : List UInt8} {m : Nat} {r : Rd} (hm : m ≤ 1) (h : r.st ≤ 1) : (r.ahead l m).st ≤ 1 := by
  unfold Rd.ahead
  simp only
  omega
theorem once_st : ∀ (n : Nat) (f : List UInt8) (args : List (List UInt8)), f.length ≤ n → (onceL f args).st ≤ 1
  | _, [], _, _ => by rw [onceL_nil]; exact Nat.zero_le _
  | 0, _ :: _, _, h => by simp at h
  | n + 1, c :: t, args, h => by
    simp only [List.length_cons] at h
    have ih := fun (k : Nat) args => once_st n (t.drop k) args (by rw [List.length_drop]; omega)
    rw [onceL_cons]
    split
    · exact ahead_st (by omega) (ih _ _)
    · split
      · exact ahead_st (by omega) (by have := ih 0 args; rwa [List.drop_zero] at this)
      · split
        · exact Nat.le_refl _
        · split
          · exact ahead_st (by omega) (ih _ _)
          · exact ahead_st (conv_st _ _) (ih _ _)
theorem format_st (f : List UInt8) (args : List (List UInt8)) : (formatL f args).2 ≤ 1 := by
  have key : ∀ k f args, (formF k f args).2 ≤ 1 := fun k => by
    induction k with
    | zero => intro f args; exact Nat.zero_le _
    | succ k ih =>
      intro f args
      have h1 := once_st _ f args (Nat.le_refl _)
      unfold formF
      split
      · exact h1
      · have := ih f (onceL f args).left
        simp only
        omega
  exact key _ _ _
theorem fine_format {t : List ND} (h : OkT t) (args : List (List UInt8)) : FineU t fun _ => formatU t args := by
  unfold formatU
  split
  · exact fine_usage h
  · rename_i f r
    have := format_st f r
    exact fine_tell h ⟨by omega, by omega⟩
theorem fine_bracket {t : List ND} (h : OkT t) (args : List (List UInt8)) : FineU t fun _ => bracketU t args := by
  unfold bracketU
  split
  · exact fine_tell h (eval_lo _ _)
  · exact fine_usage h
theorem fine_disp {t : List ND} (h : OkT t) (name : List UInt8) (args : List (List UInt8)) : FineU t fun inn => dispU name args inn t := by
  unfold dispU
  by_cases c0 : name = [99, 97, 116] ∨ name = [115, 111, 114, 116] ∨ name = [117, 110, 105, 113] ∨ name = [114, 101, 118]
  · simp only [if_pos c0]; exact fine_texty h _ _
  simp only [if_neg c0]
  by_cases c1 : name = [104, 101, 97, 100]
  · simp only [if_pos c1]; exact fine_lines h _ _
  simp only [if_neg c1]
  by_cases c2 : name = [116, 97, 105, 108]
  · simp only [if_pos c2]; exact fine_lines h _ _
  simp only [if_neg c2]
  by_cases c3 : name = [119, 99]
  · simp only [if_pos c3]; exact fine_count h _
  simp only [if_neg c3]
  by_cases c4 : name = [116, 114]
  · simp only [if_pos c4]; exact fine_swaps h _
  simp only [if_neg c4]
  by_cases c5 : name = [99, 117, 116]
  · simp only [if_pos c5]; exact fine_cut h _
  simp only [if_neg c5]
  by_cases c6 : name = [114, 109]
  · simp only [if_pos c6]; exact fine_rm h _
  simp only [if_neg c6]
  by_cases c7 : name = [109, 107, 100, 105, 114]
  · simp only [if_pos c7]; exact fine_mk h _
  simp only [if_neg c7]
  by_cases c8 : name = [116, 111, 117, 99, 104]
  · simp only [if_pos c8]; exact fine_touch h _
  simp only [if_neg c8]
  by_cases c9 : name = [102, 97, 108, 115, 101]
  · simp only [if_pos c9]; exact fine_tell h s1
  simp only [if_neg c9]
  by_cases c10 : name = [101, 99, 104, 111]
  · simp only [if_pos c10]; exact fine_tell h s0
  simp only [if_neg c10]
  by_cases c11 : name = [112, 114, 105, 110, 116, 102]
  · simp only [if_pos c11]; exact fine_format h _
  simp only [if_neg c11]
  by_cases c12 : name = [116, 101, 115, 116]
  · simp only [if_pos c12]; exact fine_tell h (eval_lo _ _)
  simp only [if_neg c12]
  by_cases c13 : name = [91]
  · simp only [if_pos c13]; exact fine_bracket h _
  simp only [if_neg c13]
  by_cases c14 : name = [115, 101, 113]
  · simp only [if_pos c14]; exact fine_seq h _
  simp only [if_neg c14]
  by_cases c15 : name = [98, 97, 115, 101, 110, 97, 109, 101]
  · simp only [if_pos c15]; exact fine_base h _ _
  simp only [if_neg c15]
  by_cases c16 : name = [100, 105, 114, 110, 97, 109, 101]
  · simp only [if_pos c16]; exact fine_base h _ _
  simp only [if_neg c16]
  by_cases c17 : name = [101, 120, 112, 114]
  · simp only [if_pos c17]; exact fine_expr h _
  simp only [if_neg c17]
  exact fine_tell h s0
theorem run_may (name : List UInt8) (args : List (List UInt8)) (inn other : List UInt8) (t : List ND) :
    ((runU name args inn t).err ≠ 0 → (runU name args inn t).out = []) ∧ ((runU name args inn t).err = 0 → OkT (runU name args inn t).tree) ∧
      ((runU name args inn t).err = 0 → (runU name args inn t).read = false → runU name args other t = runU name args inn t ∧ 0 ≤ (runU name args inn t).st ∧ (runU name args inn t).st ≤ 2) := by
  unfold runU
  split
  · exact ⟨fun _ => rfl, fun h => (by cases h), fun h => (by cases h)⟩
  · split
    · rename_i hc
      exact ⟨fun _ => rfl, fun h => absurd h hc, fun h => absurd h hc⟩
    · rename_i hn hc
      have ht : OkT t := by
        unfold checkL at hc
        by_cases h : OkT t
        · exact h
        · rw [if_neg h] at hc; exact absurd (by decide) hc
      have F := fine_disp ht name args
      split
      · exact ⟨fun _ => rfl, fun h => (by cases h), fun h => (by cases h)⟩
      · rename_i hl
        refine ⟨fun h => ?_, fun _ => F.tree inn, fun _ hr => ?_⟩
        · rcases F.err inn with e | ⟨-, e⟩
          · exact absurd e h
          · exact e
        · have he := F.read inn hr other
          rw [he, if_neg hl]
          exact ⟨rfl, F.st inn hr⟩
end Go.Proofs.YtgbibgppjicbgaaGreatDoor

namespace Go.Proofs.YtgbibgppjicbgaaGreatDoor
open Go.RowKit
def SizeB (b : Nat) (t : List ND) : Prop := ∀ n ∈ t, n.p.length ≤ b ∧ n.x.length ≤ b
theorem slash_le : ∀ (l : List (List UInt8)) (k : Nat), (slashL (l.take k)).length ≤ (slashL l).length
  | [], k => by simp
  | x :: r, 0 => by rw [List.take_zero]; simp [slashL]
  | x :: r, k + 1 => by
    have ih := slash_le r k
    rw [List.take_succ_cons]
    simp only [slashL, List.flatMap_cons, List.length_append] at ih ⊢
    omega
theorem begs_len (p : Bool) (x y : List UInt8) (h : y ∈ begsL p x) : y.length ≤ x.length + 1 := by
  unfold begsL at h
  split at h
  · obtain ⟨k, hk, rfl⟩ := List.mem_map.1 h
    have hk := List.mem_range.1 hk
    have h1 := pathL_len x
    unfold pathL joinL at h1
    have hne : partsL x ≠ [] := fun e => by rw [e] at hk; simp at hk
    rw [if_neg hne] at h1
    have h2 := slash_le (partsL x) (k + 1)
    unfold joinL
    split
    · simp
    · omega
  · obtain rfl := List.mem_singleton.1 h
    omega
theorem ins_size {b : Nat} {t : List ND} {n : ND} (h : SizeB b t) (h1 : n.p.length ≤ b) (h2 : n.x.length ≤ b) : SizeB b (insN n t) := fun y hy => by
  rcases ins_mem n |>.1 hy with rfl | ⟨hy, -⟩
  · exact ⟨h1, h2⟩
  · exact h y hy
theorem nil_size (b : Nat) : SizeB b [] := fun _ h => by cases h
theorem fits_size {b : Nat} {z : List ND} (h : SizeB b z) : SizeB b (fitsQ z).1 := by
  rcases fitsQ_cases z with ⟨-, e⟩ | ⟨-, e⟩ <;> rw [e]
  · exact h
  · exact nil_size b
theorem mkQ_size {b : Nat} {t : List ND} {x : List UInt8} (h : SizeB b t) (hx : x.length + 1 ≤ b) : SizeB b (mkQ t x).1 := by
  unfold mkQ
  split
  · exact nil_size b
  · split
    · exact nil_size b
    · split
      · exact nil_size b
      · refine fits_size ?_
        rw [withL_ins]
        exact ins_size h (Nat.le_trans (pathL_len x) hx) (Nat.zero_le _)
theorem putQ_size {b : Nat} {t : List ND} {x : List UInt8} (h : SizeB b t) (hx : x.length + 1 ≤ b) : SizeB b (putQ t x []).1 := by
  unfold putQ
  split
  · exact nil_size b
  · split
    · exact nil_size b
    · split
      · exact nil_size b
      · refine fits_size ?_
        rw [withL_ins]
        exact ins_size h (Nat.le_trans (pathL_len x) hx) (Nat.zero_le _)
theorem remQ_size {b : Nat} {t : List ND} {x : List UInt8} {r : Bool} (h : SizeB b t) : SizeB b (remQ t x r).1 := by
  unfold remQ
  split
  · exact nil_size b
  · split
    · exact nil_size b
    · split
      · exact nil_size b
      · exact fun n hn => h n (outL_mem.1 hn).1
theorem rm_size {b : Nat} (r f : Bool) : ∀ (l : List (List UInt8)) (q : List ND × Int), SizeB b q.1 → SizeB b (l.foldl (remS r f) q).1
  | [], _, h => h
  | x :: l, q, h => by
    rw [List.foldl_cons]
    refine rm_size r f l _ ?_
    unfold remS
    split
    · exact remQ_size h
    · split <;> exact h
def SizeO (b : Nat) (q : Option (List ND × Int)) : Prop := ∀ t s, q = some (t, s) → SizeB b t
theorem mkF_size {b : Nat} (p : Bool) : ∀ (l : List (List UInt8)) (q : Option (List ND × Int)), (∀ x ∈ l, x.length + 1 ≤ b) → SizeO b q → SizeO b (l.foldl (mkS p) q)
  | [], _, _, h => h
  | x :: l, q, hl, h => by
    rw [List.foldl_cons]
    refine mkF_size p l _ (fun y hy => hl y (List.mem_cons_of_mem _ hy)) ?_
    intro t s e
    cases q with
    | none => cases e
    | some q =>
      obtain ⟨t0, s0'⟩ := q
      have h1 := h t0 s0' rfl
      simp only [mkS] at e
      split at e
      · cases e; exact mkQ_size h1 (hl x (List.mem_cons_self ..))
      · split at e
        · cases e
        · split at e <;> cases e <;> exact h1
theorem touch_size {b : Nat} : ∀ (l : List (List UInt8)) (q : Option (List ND × Int)), (∀ x ∈ l, x.length + 1 ≤ b) → SizeO b q → SizeO b (l.foldl touchS q)
  | [], _, _, h => h
  | x :: l, q, hl, h => by
    rw [List.foldl_cons]
    refine touch_size l _ (fun y hy => hl y (List.mem_cons_of_mem _ hy)) ?_
    intro t s e
    cases q with
    | none => cases e
    | some q =>
      obtain ⟨t0, s0'⟩ := q
      have h1 := h t0 s0' rfl
      simp only [touchS] at e
      split at e
      · cases e; exact h1
      · split at e
        · cases e; exact putQ_size h1 (hl x (List.mem_cons_self ..))
        · split at e
          · cases e
          · cases e; exact h1
theorem full_size {b : Nat} {t : List ND} (h : SizeB b t) (q : Option (List ND × Int)) (hq : SizeO b q) : SizeB b (fullU t q).tree := by
  cases q with
  | none => exact h
  | some q => exact hq q.1 q.2 rfl
theorem letters_mem (set : List UInt8) : ∀ (l : List (List UInt8)) (o : List UInt8), ∀ x ∈ (lettersL set o l).rest, x ∈ l
  | [], _, x, h => by cases h
  | y :: r, o, x, h => by
    rw [letters_cons] at h
    split at h
    · split at h
      · exact List.mem_cons_of_mem _ (letters_mem set r _ x h)
      · cases h
    · exact h
theorem rmU_size {b : Nat} {t : List ND} {args : List (List UInt8)} (h : SizeB b t) : SizeB b (rmU t args).tree := by
  unfold rmU
  split
  · exact h
  · exact rm_size _ _ _ _ h
theorem startO {b : Nat} {t : List ND} (h : SizeB b t) : SizeO b (some (t, 0)) := fun t' s e => by cases e; exact h
theorem mkU_size {b : Nat} {t : List ND} {args : List (List UInt8)} (h : SizeB b t) (ha : ∀ a ∈ args, a.length + 2 ≤ b) : SizeB b (mkU t args).tree := by
  unfold mkU
  split
  · exact h
  · refine full_size h _ (mkF_size _ _ _ (fun x hx => ?_) (startO h))
    obtain ⟨a, h1, h2⟩ := List.mem_flatMap.1 hx
    have := begs_len _ _ _ h2
    have := ha a (letters_mem _ _ _ a h1)
    omega
theorem touchU_size {b : Nat} {t : List ND} {args : List (List UInt8)} (h : SizeB b t) (ha : ∀ a ∈ args, a.length + 2 ≤ b) : SizeB b (touchU t args).tree := by
  unfold touchU
  split
  · exact h
  · refine full_size h _ (touch_size _ _ (fun x hx => ?_) (startO h))
    have := ha x (letters_mem _ _ _ x hx)
    omega
theorem same_tree {t : List ND} {q : UQ} {b : Nat} (h : SizeB b t) (e : q.tree = t) : SizeB b q.tree := by rw [e]; exact h
theorem disp_size {b : Nat} {t : List ND} {args : List (List UInt8)} (name inn : List UInt8) (h : SizeB b t) (ha : ∀ a ∈ args, a.length + 2 ≤ b) : SizeB b (dispU name args inn t).tree := by
  unfold dispU
  by_cases c0 : name = [99, 97, 116] ∨ name = [115, 111, 114, 116] ∨ name = [117, 110, 105, 113] ∨ name = [114, 101, 118]
  · rw [if_pos c0]; exact same_tree h rfl
  rw [if_neg c0]
  by_cases c1 : name = [104, 101, 97, 100]
  · rw [if_pos c1]; exact same_tree h (by unfold linesU; split <;> rfl)
  rw [if_neg c1]
  by_cases c2 : name = [116, 97, 105, 108]
  · rw [if_pos c2]; exact same_tree h (by unfold linesU; split <;> rfl)
  rw [if_neg c2]
  by_cases c3 : name = [119, 99]
  · rw [if_pos c3]; exact same_tree h (by unfold countU; split <;> rfl)
  rw [if_neg c3]
  by_cases c4 : name = [116, 114]
  · rw [if_pos c4]; exact same_tree h (by unfold swapsU; split <;> rfl)
  rw [if_neg c4]
  by_cases c5 : name = [99, 117, 116]
  · rw [if_pos c5]; exact same_tree h (by unfold cutU; (repeat' split) <;> rfl)
  rw [if_neg c5]
  by_cases c6 : name = [114, 109]
  · rw [if_pos c6]; exact rmU_size h
  rw [if_neg c6]
  by_cases c7 : name = [109, 107, 100, 105, 114]
  · rw [if_pos c7]; exact mkU_size h ha
  rw [if_neg c7]
  by_cases c8 : name = [116, 111, 117, 99, 104]
  · rw [if_pos c8]; exact touchU_size h ha
  rw [if_neg c8]
  by_cases c9 : name = [102, 97, 108, 115, 101]
  · rw [if_pos c9]; exact same_tree h rfl
  rw [if_neg c9]
  by_cases c10 : name = [101, 99, 104, 111]
  · rw [if_pos c10]; exact same_tree h rfl
  rw [if_neg c10]
  by_cases c11 : name = [112, 114, 105, 110, 116, 102]
  · rw [if_pos c11]; exact same_tree h (by unfold formatU; split <;> rfl)
  rw [if_neg c11]
  by_cases c12 : name = [116, 101, 115, 116]
  · rw [if_pos c12]; exact same_tree h rfl
  rw [if_neg c12]
  by_cases c13 : name = [91]
  · rw [if_pos c13]; exact same_tree h (by unfold bracketU; split <;> rfl)
  rw [if_neg c13]
  by_cases c14 : name = [115, 101, 113]
  · rw [if_pos c14]; exact same_tree h (by unfold seqU seqE; (repeat' split) <;> rfl)
  rw [if_neg c14]
  by_cases c15 : name = [98, 97, 115, 101, 110, 97, 109, 101]
  · rw [if_pos c15]; exact same_tree h (by unfold baseU; split <;> rfl)
  rw [if_neg c15]
  by_cases c16 : name = [100, 105, 114, 110, 97, 109, 101]
  · rw [if_pos c16]; exact same_tree h (by unfold baseU; split <;> rfl)
  rw [if_neg c16]
  by_cases c17 : name = [101, 120, 112, 114]
  · rw [if_pos c17]; exact same_tree h (by unfold exprU; (repeat' split) <;> rfl)
  rw [if_neg c17]
  exact same_tree h rfl
theorem run_size {b : Nat} {t : List ND} {args : List (List UInt8)} (name inn : List UInt8) (h : SizeB b t) (ha : ∀ a ∈ args, a.length + 2 ≤ b) : SizeB b (runU name args inn t).tree := by
  unfold runU
  split
  · exact nil_size b
  · split
    · exact nil_size b
    · split
      · exact h
      · exact disp_size name inn h ha
end Go.Proofs.YtgbibgppjicbgaaGreatDoor
namespace Go.Proofs.YtgbibgppjicbgaaGreatDoor
open Go.RowKit
open Go.Lib (hid)
noncomputable def eachS (Q : List ND → List UInt8 → List ND × Int) (q : Option (List ND × Int)) (x : List UInt8) : Option (List ND × Int) :=
  match q with
  | none => none
  | some (t, s) => if (Q t x).2 = 0 then some ((Q t x).1, s) else if (Q t x).2 = 17 then none else some (t, 1)
theorem each_none (Q : List ND → List UInt8 → List ND × Int) : ∀ l : List (List UInt8), l.foldl (eachS Q) none = none
  | [] => rfl
  | x :: l => by rw [List.foldl_cons]; exact each_none Q l
def ChangeOk (w0 : World) (N B : Nat) (Inv : List ND → Prop) (b : Nat) (g : Nat) (caps : Array Value) (Q : List ND → List UInt8 → List ND × Int) : Prop :=
  ∀ (V : World) (C : Option Addr) (c : Nat) (R : Option Addr) (d : Nat) (o : List UInt8) (st : Int) (t : List ND) (rd : Bool) (l : List (List UInt8)) (inn x : List UInt8), Kept B w0 V → JobAt V N B C c R d o st t rd l inn → Inv t → x.length + 1 ≤ b →
    Calls Tryz.prog g (#[encS x] ++ caps) V fun e v => (∃ C' c', e = .returned (.tuple #[.slice C' (Q t x).1.length c', .int .i64 (Q t x).2]) ∧ ((Q t x).2 = 0 → NodesP v (fun g => N ≤ g ∧ g ≠ B) C' (Q t x).1 ∧ (Q t x).1.length ≤ c')) ∧ Below V.heap.size V v
def EachPost (W : World) (N B : Nat) (R : Option Addr) (d : Nat) (o : List UInt8) (rd : Bool) (l : List (List UInt8)) (inn : List UInt8) (q : Option (List ND × Int)) (e : Ending) (w' : World) : Prop :=
  Kept B W w' ∧ ((q = none ∧ e = .panicked [faultU 1 17]) ∨ ∃ t' s' C' c', q = some (t', s') ∧ e = .returned (.tuple #[]) ∧ JobAt w' N B C' c' R d o s' t' rd l inn)
section
variable {W : World} {N B : Nat} {C : Option Addr} {c : Nat} {R : Option Addr} {d : Nat} {o : List UInt8} {st : Int} {t : List ND} {rd : Bool} {l : List (List UInt8)} {inn : List UInt8}
theorem JobAt.set3 (h : JobAt W N B C c R d o st t rd l inn) {C' : Option Addr} {c' : Nat} {t' : List ND} (hT : NodesP W (fun g => N ≤ g ∧ g ≠ B) C' t') (hc : t'.length ≤ c') : JobAt (W.setCell ⟨B, 3, none⟩ (.slice C' t'.length c')) N B C' c' R d o st t' rd l inn := by
  have hk : Kept B W (W.setCell ⟨B, 3, none⟩ (.slice C' t'.length c')) := (Kept.refl _ _).setCell _ _
  refine ⟨by exact heap_setCell_same _ _ _ _ _ (.slice C' t'.length c') h.blk, fun i hi => ?_, hc, h.texts.frame fun g hg hp => ⟨hp, hk.block g hg (by have := h.le; omega)⟩, h.hd, h.le⟩
  obtain ⟨g, q, e, ⟨h1, h2⟩, c1, c2, c3⟩ := hT i hi
  have hb := hk.block g (World.block_lt_of_cell? _ _ c1) h2
  exact ⟨g, q, e, ⟨h1, h2⟩, (World.cell?_of_block (w := W) hb).trans c1, (World.cell?_of_block (w := W) hb).trans c2, (World.cell?_of_block (w := W) hb).trans c3⟩
set_option linter.unusedSimpArgs false in
set_option maxRecDepth 100000 in
set_option maxHeartbeats 4000000 in
theorem each_any (g : Nat) (caps : Array Value) (eg : ∀ args w, (callFunc g args).run Tryz.prog w = .ok (.enter g args) w) (Q : List ND → List UInt8 → List ND × Int) (Inv : List ND → Prop) (b : Nat) (hInv : ∀ t x, Inv t → x.length + 1 ≤ b → (Q t x).2 = 0 → Inv (Q t x).1)
    {w0 : World} (hQ : ChangeOk w0 N B Inv b g caps Q) (hk0 : Kept B w0 W) (h : JobAt W N B C c R d o 0 t rd l inn) (ht : Inv t) (hl : sizeTs l ≤ b) (hb : b ≤ 1099511627776) :
    Calls Tryz.prog 58 #[.pointer (some ⟨B, 0, none⟩), .func (.func g) #[] caps] W fun e w' => EachPost W N B R d o rd l inn (l.foldl (eachS Q) (some (t, 0))) e w' := by
  have hlz := sizeTs_len l
  obtain ⟨-, -, -, -, -, c5, -⟩ := h.cells
  have hmem : ∀ x ∈ l, x.length + 1 ≤ b := fun x hx => Nat.le_trans (sizeTs_mem l x hx) hl
  have HI := hid (And.intro h (And.intro ht (And.intro hmem (And.intro hk0 hQ))))
  clear h ht hmem hk0 hQ
  go_enter Tryz.func58, Tryz.ntmps58
  go_wp2_with fail
  go_loopw [14, 5, 6, 7] (fun vi _ _ _ wr => ∃ (k : Nat) (tk : List ND) (sk : Int) (Ck : Option Addr) (ck : Nat), vi = .int .i64 k ∧ k ≤ l.length ∧ Hid (JobAt wr N B Ck ck R d o sk tk rd l inn) ∧ Hid (Kept B W wr) ∧ Hid ((l.take k).foldl (eachS Q) (some (t, 0)) = some (tk, sk)) ∧ Hid (Inv tk)) (fun vi _ _ _ _ => l.length - (intOf vi).toNat)
  case atStart => exact ⟨0, t, 0, C, c, rfl, Nat.zero_le _, hid HI.out.1, hid (Kept.refl _ _), hid rfl, hid HI.out.2.1⟩
  case round =>
    obtain ⟨k, tk, sk, Ck, ck, rfl, hk, HJ, HK, HF, HV⟩ := hrel
    by_cases hlt : k < l.length
    · obtain ⟨z, q, rfl, -, hc⟩ := HJ.out.texts k hlt
      have hx := HI.out.2.2.1 _ (List.getElem_mem hlt)
      have cQ := HI.out.2.2.2.2 wr Ck ck _ d o sk tk rd l inn l[k] (HI.out.2.2.2.1.trans HK.out) HJ.out HV.out hx
      have hkz : (k : Int) < (l.length : Int) := by omega
      have hnx : (l.take (k + 1)).foldl (eachS Q) (some (t, 0)) = eachS Q (some (tk, sk)) l[k] := by
        rw [List.take_succ_eq_append_getElem hlt, List.foldl_append, HF.out]
        rfl
      have hend : eachS Q (some (tk, sk)) l[k] = none → l.foldl (eachS Q) (some (t, 0)) = none := fun e => by
        have e1 : l = l.take (k + 1) ++ l.drop (k + 1) := (List.take_append_drop _ _).symm
        rw [e1, List.foldl_append, hnx, e]
        exact each_none Q _
      have hin := HI.out
      have hInvK := hInv tk l[k] HV.out hx
      generalize l[k] = x at *
      have hst : eachS Q (some (tk, sk)) x = if (Q tk x).2 = 0 then some ((Q tk x).1, sk) else if (Q tk x).2 = 17 then none else some (tk, 1) := rfl
      generalize Q tk x = qx at *
      obtain ⟨qt, qe⟩ := qx
      simp only at cQ hInvK hst
      have HN := hid (And.intro hnx (And.intro hend hst))
      clear hnx hend hst hin hx HF
      by_cases h17 : qe = 17
      · subst h17
        clear hInvK
        go_wp2_with (go_at_fn g; refine cQ.mono ?_; rintro e w1 ⟨⟨C', c', rfl, -⟩, hb1⟩)
        refine (fits_false _).mono ?_
        rintro e w2 ⟨rfl, rfl⟩
        go_wp2_with fail
        exact ⟨rfl, HK.out.trans (Kept.of_below hb1), .inl ⟨HN.out.2.1 (by rw [HN.out.2.2]; rfl), rfl⟩⟩
      · have h17b : (qe != 17) = true := by simpa using h17
        have h17c : (qe == 17) = false := by simpa using h17
        by_cases h0 : qe = 0
        · subst h0
          have HV1 := hid (hInvK rfl)
          clear hInvK
          go_wp2_with (go_at_fn g; refine cQ.mono ?_; rintro e w1 ⟨⟨C', c', rfl, hC⟩, hb1⟩)
          obtain ⟨hC1, hC2⟩ := hC (by trivial)
          refine (fits_true _).mono ?_
          rintro e w2 ⟨rfl, rfl⟩
          have HJ1 := hid (HJ.out.below hb1)
          have HC := hid (And.intro hC1 hC2)
          have HK1 := hid (HK.out.trans (Kept.of_below hb1))
          have x3 := HJ1.out.cells.2.2.2.1
          have f3 := HJ1.out.free 3
          clear hb1 cQ hC hC1 hC2 HJ HK HV
          go_wp2_with fail
          go_roundw
          case rel => exact ⟨k + 1, qt, sk, C', c', by go_num, by omega, hid (HJ1.out.set3 HC.out.1 HC.out.2), hid (HK1.out.setCell _ _), hid (by rw [HN.out.1, HN.out.2.2]; rfl), HV1⟩
          case measure => simp [intOf]; omega
        · have h0b : (qe != 0) = true := by simpa using h0
          have h0c : (qe == 0) = false := by simpa using h0
          clear hInvK
          go_wp2_with (go_at_fn g; refine cQ.mono ?_; rintro e w1 ⟨⟨C', c', rfl, -⟩, hb1⟩)
          refine (fits_true _).mono ?_
          rintro e w2 ⟨rfl, rfl⟩
          have HJ1 := hid (HJ.out.below hb1)
          have HK1 := hid (HK.out.trans (Kept.of_below hb1))
          have x2 := HJ1.out.cells.2.2.1
          have f2 := HJ1.out.free 2
          clear hb1 cQ HJ HK
          go_wp2_with fail
          go_roundw
          case rel => exact ⟨k + 1, tk, 1, Ck, ck, by go_num, by omega, hid (HJ1.out.set2 1), hid (HK1.out.setCell _ _), hid (by rw [HN.out.1, HN.out.2.2, if_neg h0, if_neg h17]), HV⟩
          case measure => simp [intOf]; omega
    · obtain rfl : k = l.length := by omega
      have hkz : ¬ (l.length : Int) < (l.length : Int) := by omega
      rw [List.take_length] at HF
      go_wp2_with fail
      go_end0
      exact ⟨HK.out, .inr ⟨tk, sk, Ck, ck, HF.out, rfl, HJ.out⟩⟩
end
end Go.Proofs.YtgbibgppjicbgaaGreatDoor

namespace Go.Proofs.YtgbibgppjicbgaaGreatDoor
open Go.RowKit
open Go.Lib (hid)
theorem under_pre (p top : List UInt8) : underB p top = (p == top || Lib.hasPrefix p (top ++ [47])) := by
  unfold underB Lib.hasPrefix
  rw [Bool.eq_iff_iff, decide_eq_true_iff, Bool.or_eq_true, List.isPrefixOf_iff_prefix]
  simp
def RemI (ab N1 : Nat) (W1 : World) (ys : List ND) (wr : World) : Prop := ∃ a c', wr.heap[ab]? = some (.cells #[.slice a ys.length c'] 23 (0, 0)) ∧ OwnN wr N1 a c' ys ∧ Turn N1 ab W1 wr
set_option maxRecDepth 100000 in
set_option maxHeartbeats 8000000 in
theorem remI_next {ab N1 : Nat} {W1 : World} {ys : List ND} {y : ND} {w1 w3 : World} {a : Option Addr} {c' gg cap : Nat} (hN : ab < N1) (hb1 : w1.heap[ab]? = some (.cells #[.slice a ys.length c'] 23 (0, 0))) (hO : OwnN w1 N1 a c' ys) (hT : Turn N1 ab W1 w1) (hs : N1 ≤ w1.heap.size)
    (hown3 : w3.ownsRow N1 58 3 (.slice (some ⟨gg, 0, none⟩) (ys.length + 1) cap) (ys.length + 1) (ys.flatMap cellsN ++ cellsN y)) (hg : (w1.alloc (.cells (cellsN y).toArray 58)).grownBy w3 (Value.slice a ys.length c').ownBlock) :
    RemI ab N1 W1 (ys ++ [y]) (w3.setCell ⟨ab, 0, none⟩ (.slice (some ⟨gg, 0, none⟩) (ys.length + 1) cap)) := by
  have hrow := own_row_cells hO
  have t1 : Turn N1 ab W1 (w1.alloc (.cells (cellsN y).toArray 58)) := hT.trans (.alloc hs hN _)
  have t2 : Turn N1 ab W1 w3 := t1.trans (.grown (by simp; omega) hN hg (own_row_cells (World.ownsRow.alloc (w := w1) hO _)))
  have hb3 : w3.heap[ab]? = some (.cells #[.slice a ys.length c'] 23 (0, 0)) := (hg.block ab (by have := lt_of_block hb1; simp; omega) (fun e => by have := (hrow ab e.symm).1; omega)).trans ((Below.heap_alloc w1 _ ab (lt_of_block hb1)).trans hb1)
  refine ⟨some ⟨gg, 0, none⟩, cap, by rw [List.length_append]; exact one_setCell hb3, ?_, t2.trans (.set w3 0 _)⟩
  have ho : OwnN w3 N1 (some ⟨gg, 0, none⟩) cap (ys ++ [y]) := OwnN.next hown3
  exact own_turn ho fun j hj _ => Below.heap_setCell _ _ _ _ (by show j ≠ ab; omega)
set_option maxRecDepth 100000 in
set_option maxHeartbeats 8000000 in
theorem removeFn (A : Option Addr) (c : Nat) (t : List ND) (p : List UInt8) (all : Bool) (bb tb ab N : Nat) (w0 W : World) (hN : N ≤ ab)
    (h0 : W.heap[bb]? = some (.cells #[.bool all] 4 (0, 0))) (h1 : W.heap[tb]? = some (.cells #[.slice A t.length c] 23 (0, 0))) (h4 : W.heap[ab]? = some (.cells #[.slice none 0 0] 23 (0, 0)))
    (hB : Below N w0 W) (hT : NodesP W (fun g => g ≠ ab) A t) (hok : OkT t) (hz : SizeT t) (ha : askQ t p = (pathL p, 0)) (hp : p.length ≤ 137438953472) :
    Calls Tryz.prog 275 #[.agg #[encS (pathL p), .int .i64 (whereN t (pathL p)), .int .i64 (kindL t (pathL p))], .pointer (some ⟨bb, 0, none⟩), .pointer (some ⟨tb, 0, none⟩), .pointer (some ⟨ab, 0, none⟩)] W (AtPost (ClosR N ab w0 (remQ t p all))) := by
  have hNW : N ≤ W.heap.size := by have := lt_of_block h4; omega
  have h256 := hok.1
  have hpl := pathL_len p
  obtain ⟨P, hP⟩ : ∃ P, pathL p = P := ⟨_, rfl⟩
  have hq : remQ t p all = if kindL t P = 0 then ([], 71) else if P = [47] ∨ kindL t P = 2 ∧ all = false then ([], 15) else (outL t P, 0) := by unfold remQ; rw [ha, ← hP]; simp
  rw [hP] at hpl ⊢
  clear ha hP hok
  generalize whereN t P = wh
  generalize kindL t P = K at *
  obtain ⟨W1, hW1⟩ : ∃ W1, W.alloc (.cells #[encS P, .int .i64 wh, .int .i64 K] 207) = W1 := ⟨_, rfl⟩
  have hal : Below W.heap.size W W1 := by rw [← hW1]; exact (Below.refl _ _).alloc (Nat.le_refl _) _
  have hs1 : W1.heap.size = W.heap.size + 1 := by rw [← hW1]; simp
  have hsp : W1.heap[W.heap.size]? = some (.cells #[encS P, .int .i64 wh, .int .i64 K] 207 (0, 0)) := by rw [← hW1]; exact heap_alloc_new _ _
  have g0 := heap_below' h0 hal; have g1 := heap_below' h1 hal; have g4 := heap_below' h4 hal
  have hT1 := hT.below hal
  have hB1 := hB.trans (hal.mono hNW)
  have hab := lt_of_block h4
  have x0 : W1.cell? ⟨W.heap.size, 0, none⟩ = some (encS P) := by simp [World.cell?, hsp]
  have x2 : W1.cell? ⟨W.heap.size, 2, none⟩ = some (.int .i64 K) := by simp [World.cell?, hsp]
  have y0 := cell_of_one g0; have y1 := cell_of_one g1
  by_cases hK : K = 0
  · subst hK
    have HQ : Hid (remQ t p all = ([], 71)) := hid (by rw [hq, if_pos rfl])
    have HF := hid (And.intro g4 hB1)
    clear hT hT1 g0 g1 g4 h0 h1 h4 hsp hB hB1 y0 y1 x0 hq hz
    go_enter Tryz.func275, Tryz.ntmps275
    go_wp2
    go_ret
    exact closR_nil HQ.out HF.out.1 HF.out.2
  rw [if_neg hK] at hq
  have q1 : (K == 0) = false := by simpa using hK
  by_cases hd : P = [47] ∨ K = 2 ∧ all = false
  · have HQ : Hid (remQ t p all = ([], 15)) := hid (by rw [hq, if_pos hd])
    have q2 : (P == [47]) = true ∨ ((P == [47]) = false ∧ K = 2 ∧ all = false) := by
      by_cases h47 : P = [47]
      · exact .inl (by simpa using h47)
      · exact .inr ⟨by simpa using h47, hd.resolve_left h47⟩
    have HF := hid (And.intro g4 hB1)
    clear hT hT1 g1 g4 h0 h1 h4 hsp hB hB1 y1 hq hz hK hd g0
    rcases q2 with q2 | ⟨q2, rfl, rfl⟩
    all_goals
      go_enter Tryz.func275, Tryz.ntmps275
      go_wp2
      go_ret
      exact closR_nil HQ.out HF.out.1 HF.out.2
  · have HQ : Hid (remQ t p all = (outL t P, 0)) := hid (by rw [hq, if_neg hd])
    have q2 : (P == [47]) = false := by simpa using fun h => hd (.inl h)
    have q3 : (K == 2) = false ∨ ((K == 2) = true ∧ all = true) := by
      by_cases h2 : K = 2
      · refine .inr ⟨by simpa using h2, ?_⟩
        cases all
        · exact absurd (.inr ⟨h2, rfl⟩) hd
        · rfl
      · exact .inl (by simpa using h2)
    obtain ⟨i0, hi, hz0, hz1, hz2⟩ := info_parts info_node
    clear hK hd hq h0 h1 h4 g0 hT
    rcases q3 with q3 | ⟨q3, rfl⟩
    all_goals
      go_enter Tryz.func275, Tryz.ntmps275
      go_wp2
      clear q1 q2 q3 y0 y1 x2
      go_loopw [27] (fun i wr => ∃ (k : Nat) (ys : List ND), k ≤ t.length ∧ i = .int .i64 k ∧ Hid (ys = outL (t.take k) P) ∧ RemI ab W1.heap.size W1 ys wr) (fun i _ => t.length - (intOf i).toNat)
      case atStart => exact ⟨0, [], Nat.zero_le _, rfl, hid rfl, none, 0, g4, World.ownsRow_nil _ _ _ _, Turn.refl _ _ _⟩
      case round =>
        obtain ⟨k, ys, hk, rfl, HY, a, c', hbx, hO, hTu⟩ := hrel
        have hyl : ys.length ≤ k := by
          rw [HY.out]
          unfold outL
          exact Nat.le_trans (List.length_filter_le _ _) (List.length_take_le _ _)
        have hsr := hTu.bel.size
        by_cases hlt : k < t.length
        · have hTr : NodesP wr (fun _ => True) A t := hT1.frame fun g hg hne => ⟨trivial, hTu.low g hg hne⟩
          obtain ⟨gt, ot, rfl, -, b0, b1, b2⟩ := hTr k hlt
          have HS := hid (outL_succ t P k hlt)
          rw [← HY.out] at HS
          obtain ⟨hp1, hx1⟩ := hz _ (List.getElem_mem hlt)
          generalize t[k] = n at *
          obtain ⟨np, nd, nx⟩ := n
          simp only at b0 b1 b2 hp1 hx1 HS
          have hup := under_pre np P
          obtain ⟨Q, hQ⟩ : ∃ Q, P ++ [47] = Q := ⟨_, rfl⟩
          rw [hQ] at hup
          have hxw : wr.cell? ⟨W.heap.size, 0, none⟩ = some (encS P) := by
            have e := hTu.low W.heap.size (by omega) (by omega)
            simpa [World.cell?, e] using x0
          have cH : ∀ W2 : World, Calls Tryz.prog 276 #[encS np, .string ⟨Q.toArray⟩] W2 fun e w' => e = .returned (.bool (Lib.hasPrefix np Q)) ∧ w' = W2 := fun W2 => Tryz.strings_HasPrefix ⟨np.toArray⟩ ⟨Q.toArray⟩ W2
          have hadd : (⟨P.toArray⟩ : ByteArray) ++ ⟨#[47]⟩ = ⟨Q.toArray⟩ := by rw [← hQ]; exact bytes_app P [47]
          clear hQ
          have hPm : P.length ≤ 137438953473 := by omega
          obtain ⟨W2, hW2⟩ : ∃ W2, wr.alloc (.cells #[encS np, .bool nd, encS nx] 58) = W2 := ⟨_, rfl⟩
          have hal2 : Below wr.heap.size wr W2 := by rw [← hW2]; exact (Below.refl _ _).alloc (Nat.le_refl _) _
          have hx3 : Box3 W2 wr.heap.size (encS np) (.bool nd) (encS nx) := by rw [← hW2]; exact heap_alloc_new _ _
          have a0 := hx3.a0; have a1 := hx3.a1; have a2 := hx3.a2
          have hxw2 := cell_below hal2 hxw
          have hT2 : Turn W1.heap.size ab W1 W2 := hTu.trans (.below hsr (by omega) hal2)
          have hO2 := own_below hO hal2
          have hb2 := heap_below' hbx hal2
          by_cases hu : underB np P = true
          · have HY2 : Hid (ys = outL (t.take (k + 1)) P) := hid (by rw [HS.out, hu]; simp)
            have HF := hid (show RemI ab W1.heap.size W1 ys W2 from ⟨a, c', hb2, hO2, hT2⟩)
            have hc : (np == P) = true ∨ ((np == P) = false ∧ Lib.hasPrefix np Q = true) := by
              rw [hup] at hu
              cases h : np == P
              · rw [h] at hu; exact .inr ⟨rfl, by simpa using hu⟩
              · exact .inl rfl
            clear hu hup HS HY hTr hT1 hz hO hO2 hTu hT2 hb2 hbx hx3 hxw
            rcases hc with hc | ⟨hc, hc2⟩
            · have hc' : (np != P) = false := by simp only [bne, hc]; rfl
              go_wp2
              go_roundw
              case rel => exact ⟨k + 1, ys, by omega, by go_num, HY2, HF.out⟩
              case measure => simp [intOf]; omega
            · have hc' : (np != P) = true := by simp only [bne, hc]; rfl
              rw [hc2] at cH
              go_wp2_with (go_at_call 276; (with_reducible refine (cH _).mono ?_); rintro e w5 ⟨rfl, rfl⟩)
              go_roundw
              case rel => exact ⟨k + 1, ys, by omega, by go_num, HY2, HF.out⟩
              case measure => simp [intOf]; omega
          · have hu : underB np P = false := by simpa using hu
            have HY2 : Hid (ys ++ [⟨np, nd, nx⟩] = outL (t.take (k + 1)) P) := hid (by rw [HS.out, hu]; simp)
            have hc : (np == P) = false ∧ Lib.hasPrefix np Q = false := by
              rw [hup] at hu
              simpa using hu
            obtain ⟨hc, hc2⟩ := hc
            have hc' : (np != P) = true := by simp only [bne, hc]; rfl
            rw [hc2] at cH
            have cC := fun W => copied_any ⟨np, nd, nx⟩ W (by show np.length ≤ _; omega) (by show nx.length ≤ _; omega)
            have hlt2 := lt_of_block hb2
            have hs2 := hT2.bel.size
            have n0 := cell_of_one hb2
            clear hu hup HS HY hTr hT1 hz hO hTu hbx hxw
            go_wp2_with (go_at_call 276; (with_reducible refine (cH _).mono ?_); rintro e w5 ⟨rfl, hw5⟩; obtain rfl : W2 = w5 := hw5.symm)
            clear hc hc' hc2 cH b0 b1 b2 hxw2 x0
            have hO2 : W2.ownsRow W1.heap.size 58 3 (.slice a ys.length c') ys.length (ys.flatMap cellsN) := hO2
            go_region_law (first
              | (go_simp; go_at_call 277; refine (cC _).mono ?_; rintro e w3 ⟨rfl, hb3⟩; have hown3 := own_below (w := W2.drew) hO2 hb3; have hbk3 := (hb3.block ab hlt2).trans hb2; have hlt3 := lt_of_block hbk3; have c3 := cell_of_one hbk3)
              | (refine step_append_lies _ (by rfl) _ _ _ (by rfl) W1.heap.size 58 i0 _ 3 40 Tryz.underlying23 hi hz0 hz1 hz2 rfl (by omega) (.slice a ys.length c') ys.length (ys.flatMap cellsN) (by rfl) (hown3.alloc _) ⟨w3.heap.size, 0, none⟩ 1 1 (cellsN ⟨np, nd, nx⟩) (by rfl) (by rfl) (World.news_of_block (cs := #[encS np, .bool nd, encS nx]) (t := 58) (fr := (0, 0)) (heap_alloc_new w3 _)) (by simp [cellsN, Value.oneCell']) (by omega) (by unfold maxLen; omega) (by omega) (by have : W2.heap.size ≤ w3.heap.size := hb3.size; simp; omega) (w3.heap.size + 1) (by simp) ?_; intro gg cap w4 hown4 hg hat hlt4; have hbk4 := (hg.block ab (by simp; omega) (fun e => by have := (own_row_cells hO2 _ e.symm).1; omega)).trans ((Below.heap_alloc w3 _ ab hlt3).trans hbk3); have c4 := cell_of_one hbk4; have f4 := free_of_one hbk4))
            all_goals
              have hT3 : Turn W1.heap.size ab W1 w3 := (hT2.trans (.drew _ _ W2)).trans (.below (show W1.heap.size ≤ W2.heap.size from hs2) (by omega) hb3)
              have HF := hid (remI_next (y := ⟨np, nd, nx⟩) (by omega) hbk3 hown3 hT3 (Nat.le_trans hs2 hb3.size) hown4 hg)
              clear hown4 hg hown3 hbk3 hbk4 c3 c4 f4 hT3 hb3 hat n0 hO2 hb2
              go_wp2
              go_roundw
              case rel => exact ⟨k + 1, ys ++ [⟨np, nd, nx⟩], by omega, by go_num, HY2, HF.out⟩
              case measure => simp [intOf]; omega
        · obtain rfl : k = t.length := by omega
          rw [List.take_length] at HY
          obtain rfl := HY.out
          have HF := hid (show ClosR N ab w0 (outL t P, 0) 0 wr from ⟨rfl, a, c', hbx, own_down hO (by omega), hB1.trans (hTu.bel.mono hN)⟩)
          clear hbx hO hTu hT1 hz
          go_wp2
          go_ret
          rw [HQ.out]
          exact ⟨0, rfl, HF.out⟩
end Go.Proofs.YtgbibgppjicbgaaGreatDoor

namespace Go.Proofs.YtgbibgppjicbgaaGreatDoor
open Go.RowKit
open Go.Lib (hid)
theorem three_boxes (w : World) (o0 o1 o2 : Obj) {W : World} (hW : ((w.alloc o0).alloc o1).alloc o2 = W) : W.heap[w.heap.size]? = some o0 ∧ W.heap[w.heap.size + 1]? = some o1 ∧ W.heap[w.heap.size + 2]? = some o2 ∧ W.heap.size = w.heap.size + 3 ∧ Below w.heap.size w W := by
  obtain ⟨h0, h1, hs, hb⟩ := two_boxes w o0 o1 rfl
  subst hW
  refine ⟨(Below.heap_alloc _ _ _ (by simp; omega)).trans h0, (Below.heap_alloc _ _ _ (by simp)).trans h1, ?_, by simp, hb.alloc (by simp; omega) _⟩
  have := heap_alloc_new ((w.alloc o0).alloc o1) o2
  rwa [World.size_alloc, World.size_alloc] at this
set_option maxRecDepth 100000 in
set_option maxHeartbeats 4000000 in
theorem tRemove_any (A : Option Addr) (c : Nat) (t : List ND) (p : List UInt8) (all : Bool) (w : World) (hT : NodesP w (fun _ => True) A t) (hl : t.length ≤ 1099511627776 ∧ t.length ≤ c) (hz : SizeT t) (hp : p.length ≤ 137438953472) :
    Calls Tryz.prog 221 #[.slice A t.length c, encS p, .bool all] w fun e w' => TellsN w (remQ t p all) e w' := by
  obtain ⟨W1, hW1⟩ : ∃ W1, ((w.alloc (.cells #[.slice A t.length c] 23)).alloc (.cells #[.bool all] 4)).alloc (.cells #[.slice none 0 0] 23) = W1 := ⟨_, rfl⟩
  obtain ⟨k0, k1, k2, ks, kb⟩ := three_boxes w _ _ _ hW1
  have y0 := cell_of_one k0
  have hTb := hT.below kb
  have eg := enters_of Tryz.func275 (by kernel_rfl) rfl
  obtain ⟨lb, hlb⟩ : ∃ lb : Array Value, lb = #[.pointer (some ⟨w.heap.size + 1, 0, none⟩), .pointer (some ⟨w.heap.size, 0, none⟩), .pointer (some ⟨w.heap.size + 2, 0, none⟩)] := ⟨_, rfl⟩
  have cA : Calls Tryz.prog 225 #[.slice A t.length c, encS p, .func (.func 275) #[] lb] W1 (AtPost (ClosR w.heap.size (w.heap.size + 2) w (remQ t p all))) := by
    rcases askQ_cases t p with ⟨ha, hok, hq⟩ | ⟨ha, -, -⟩ | ⟨ha, -⟩
    · refine at_ok 275 lb eg _ A c t p W1 hTb hl.1 hz hl.2 (by omega) hok hq fun W hb => ?_
      rw [hlb]
      exact removeFn A c t p all (w.heap.size + 1) w.heap.size (w.heap.size + 2) w.heap.size w W (by omega)
        (heap_below' k1 hb) (heap_below' k0 hb) (heap_below' k2 hb) (kb.trans (hb.mono (by omega)))
        (hT.frame fun g hg _ => ⟨by omega, (hb.block g (by omega)).trans (kb.block g hg)⟩) hok hz ha (by omega)
    · refine (at_err 275 lb A c t p 31 W1 hTb hl.1 hz hl.2 (by omega) ha (by decide)).mono ?_
      rintro e w' ⟨rfl, hb⟩
      exact closR_nil (by unfold remQ; rw [ha]; exact if_pos (by decide)) (heap_below' k2 hb) (kb.trans (hb.mono (by omega)))
    · refine (at_err 275 lb A c t p 9 W1 hTb hl.1 hz hl.2 (by omega) ha (by decide)).mono ?_
      rintro e w' ⟨rfl, hb⟩
      exact closR_nil (by unfold remQ; rw [ha]; exact if_pos (by decide)) (heap_below' k2 hb) (kb.trans (hb.mono (by omega)))
  rw [hlb] at cA
  generalize remQ t p all = q at *
  clear hT hTb hz k0 k1 k2 hlb eg
  go_enter Tryz.func221, Tryz.ntmps221
  go_wp2_with fail
  refine cA.mono ?_
  rintro e w2 ⟨n, rfl, rfl, a, c', hbx, hO, hB⟩
  have e0 := cell_of_one hbx
  have f0 := free_of_one hbx
  have HO := hid (And.intro hO hB)
  have HS := hid (set_same hbx)
  clear cA hO hB hW1
  go_wp2
  rw [show w.heap.size + 1 + 1 = w.heap.size + 2 from rfl, HS.out]
  exact bodyPost_ret (v := .tuple #[.slice a q.1.length c', .int .i64 q.2]) (by simp [results, Tryz.results221, go_sem, e0]) rfl ⟨a, c', rfl, HO.out.1, HO.out.2⟩
end Go.Proofs.YtgbibgppjicbgaaGreatDoor
namespace Go.Proofs.YtgbibgppjicbgaaGreatDoor
open Go.RowKit
open Go.Lib (hid)
def InvU (t : List ND) : Prop := OkT t ∧ SizeB 1100000 t
theorem InvU.sz {t : List ND} (h : InvU t) : SizeT t := fun n hn => by have := h.2 n hn; omega
noncomputable def touchQ (t : List ND) (x : List UInt8) : List ND × Int := if kindQ t x ≠ 0 then (t, 0) else putQ t x []
noncomputable def rmQ (r f : Bool) (t : List ND) (x : List UInt8) : List ND × Int := if (remQ t x r).2 = 71 ∧ f = true then (t, 0) else remQ t x r
theorem touch_inv (t : List ND) (x : List UInt8) (h : InvU t) (hx : x.length + 1 ≤ 1100000) (h0 : (touchQ t x).2 = 0) : InvU (touchQ t x).1 := by
  unfold touchQ at h0 ⊢
  split at h0
  · rename_i hk; rw [if_pos hk]; exact h
  · rename_i hk
    rw [if_neg hk]
    obtain ⟨-, -, -, e1, e2⟩ := putQ_ok h0
    exact ⟨by rw [e1]; exact e2, putQ_size h.2 hx⟩
theorem rm_inv (r f : Bool) (t : List ND) (x : List UInt8) (h : InvU t) (_ : x.length + 1 ≤ 1100000) (h0 : (rmQ r f t x).2 = 0) : InvU (rmQ r f t x).1 := by
  unfold rmQ at h0 ⊢
  split at h0
  · rename_i hk; rw [if_pos hk]; exact h
  · rename_i hk
    rw [if_neg hk]
    exact ⟨remQ_ok h0 h.1, remQ_size h.2⟩
theorem each_touch : eachS touchQ = touchS := by
  funext q x
  cases q with
  | none => rfl
  | some q =>
    obtain ⟨t, s⟩ := q
    show (if (touchQ t x).2 = 0 then _ else _) = _
    unfold touchQ touchS
    by_cases hk : kindQ t x ≠ 0
    · simp only [if_pos hk]; rfl
    · simp only [if_neg hk]
theorem remQ_17 (t : List ND) (x : List UInt8) (r : Bool) : (remQ t x r).2 ≠ 17 := by
  unfold remQ
  split
  · rcases askQ_cases t x with ⟨h, -⟩ | ⟨h, -⟩ | ⟨h, -⟩ <;> rw [h] <;> simp
  · split
    · simp
    · split <;> simp
theorem each_rm (r f : Bool) : ∀ (l : List (List UInt8)) (q : List ND × Int), l.foldl (eachS (rmQ r f)) (some q) = some (l.foldl (remS r f) q)
  | [], q => rfl
  | x :: l, q => by
    rw [List.foldl_cons, List.foldl_cons, ← each_rm r f l]
    congr 1
    obtain ⟨t, s⟩ := q
    show (if (rmQ r f t x).2 = 0 then _ else _) = _
    have h17 := remQ_17 t x r
    unfold rmQ remS
    by_cases h0 : (remQ t x r).2 = 0
    · have h71 : ¬ ((remQ t x r).2 = 71 ∧ f = true) := fun h => by rw [h0] at h; exact absurd h.1 (by decide)
      simp only [if_neg h71]
      rw [if_pos h0, if_pos h0]
    · by_cases hf : (remQ t x r).2 = 71 ∧ f = true
      · simp only [if_pos hf, if_true]
        rw [if_neg h0, if_neg (by rw [hf.1, hf.2]; simp)]
      · simp only [if_neg hf]
        rw [if_neg h0, if_neg h17, if_neg h0, if_pos]
        by_cases h71 : (remQ t x r).2 = 71
        · refine .inr ?_
          cases f
          · rfl
          · exact absurd ⟨h71, rfl⟩ hf
        · exact .inl h71
theorem contains_one (l : List UInt8) (c : UInt8) (w : World) : Calls Tryz.prog 119 #[encS l, .string ⟨#[c]⟩] w fun e w' => e = .returned (.bool (l.contains c)) ∧ w' = w := by
  have h := Tryz.strings_Contains_one ⟨l.toArray⟩ c w
  have e : (⟨l.toArray⟩ : ByteArray).data.toList = l := by simp
  rw [e] at h
  have hd : decide (0 ≤ Lib.indexByte l c) = l.contains c := by
    by_cases hc : c ∈ l
    · rw [List.contains_iff_mem.2 hc, decide_eq_true_eq]
      rcases Int.lt_or_le (Lib.indexByte l c) 0 with h | h
      · have h1 : Lib.indexByte l c = -1 := by have := Lib.indexByte_ge l c; omega
        obtain ⟨k, hk⟩ := List.mem_iff_getElem?.1 hc
        exact absurd hk (Lib.indexByte_none h1 k)
      · exact h
    · have h1 : l.contains c = false := by rw [Bool.eq_false_iff]; intro h; exact hc (List.contains_iff_mem.1 h)
      rw [h1, decide_eq_false_iff_not]
      intro h0
      obtain ⟨k, hk⟩ : ∃ k : Nat, Lib.indexByte l c = k := ⟨(Lib.indexByte l c).toNat, by omega⟩
      exact hc (List.mem_of_getElem? (Lib.indexByte_some hk).1)
  rwa [hd] at h
section
variable {W : World} {N B : Nat} {C : Option Addr} {c : Nat} {R : Option Addr} {d : Nat} {o : List UInt8} {st : Int} {t : List ND} {rd : Bool} {l : List (List UInt8)} {inn : List UInt8}
set_option linter.unusedSimpArgs false in
set_option maxHeartbeats 1000000 in
theorem touch_ok {w0 : World} {b : Nat} (hb : w0.heap[b]? = some (.cells #[.pointer (some ⟨B, 0, none⟩)] 68 (0, 0))) (hne : b ≠ B) : ChangeOk w0 N B InvU 1100000 137 #[.pointer (some ⟨b, 0, none⟩)] touchQ := by
  intro V C c R d o st t rd l inn x hk h hi hx
  have y0 := cell_of_one (box_kept hb hne hk)
  have c3 := h.cells.2.2.2.1
  have cK := tKind_any C c t x V h.tree ⟨by have := hi.1.1; omega, h.hc⟩ hi.sz (by omega)
  have hVB := h.lt
  have cP := fun V' (hb : Below V.heap.size V V') => tPut_any C c t x [] V' ((h.below hb).tree) ⟨by have := hi.1.1; omega, h.hc⟩ hi.sz (by omega) (by simp)
  have HH := hid h
  clear hb hk hi
  show Calls _ _ #[encS x, .pointer (some ⟨b, 0, none⟩)] _ _
  by_cases hkz : kindQ t x ≠ 0
  · have hk1 : (kindQ t x != 0) = true := by simpa using hkz
    have HQ : Hid (touchQ t x = (t, 0)) := hid (if_pos hkz)
    rw [HQ.out]
    generalize kindQ t x = kk at *
    clear hkz h cP
    go_enter Tryz.func137, Tryz.ntmps137
    go_wp2_with fail
    refine cK.mono ?_
    rintro e w1 ⟨rfl, hb1⟩
    have HJ := hid (HH.out.below hb1)
    have y0 := cell_below hb1 y0
    have c3 := cell_below hb1 c3
    have HB := hid hb1
    clear cK hb1
    go_wp2_with fail
    go_ret2
    exact ⟨⟨C, c, rfl, fun _ => ⟨HJ.out.nodes, HJ.out.hc⟩⟩, HB.out⟩
  · have hk1 : (kindQ t x != 0) = false := by simpa using hkz
    have HQ : Hid (touchQ t x = putQ t x []) := hid (if_neg hkz)
    rw [HQ.out]
    generalize kindQ t x = kk at *
    generalize putQ t x [] = qx at *
    clear hkz h HQ
    go_enter Tryz.func137, Tryz.ntmps137
    go_wp2_with fail
    refine cK.mono ?_
    rintro e w1 ⟨rfl, hb1⟩
    have y0 := cell_below hb1 y0
    have c3 := cell_below hb1 c3
    have cP := cP w1 hb1
    have HB := hid hb1
    clear cK hb1
    go_wp2_with fail
    refine cP.mono ?_
    rintro e w2 ⟨C', c', rfl, hO, hb2⟩
    have HO := hid (And.intro hO.nodes (And.intro hO.cap hb2))
    clear cP hO hb2
    go_wp2_with fail
    go_ret2
    refine ⟨⟨C', c', rfl, fun _ => ⟨HO.out.1.frame fun g _ hp => ⟨?_, rfl⟩, HO.out.2.1⟩⟩, HB.out.trans (HO.out.2.2.mono HB.out.size)⟩
    have hp : w1.heap.size ≤ g := hp
    have h1 := HB.out.size
    have h2 := HH.out.le
    omega
set_option linter.unusedSimpArgs false in
set_option maxRecDepth 100000 in
set_option maxHeartbeats 2000000 in
theorem rm_ok {w0 : World} {b b1 b2 : Nat} {r f : Bool} (hb : w0.heap[b]? = some (.cells #[.pointer (some ⟨B, 0, none⟩)] 68 (0, 0))) (hb1 : w0.heap[b1]? = some (.cells #[.bool r] 4 (0, 0))) (hb2 : w0.heap[b2]? = some (.cells #[.bool f] 4 (0, 0))) (hne : b ≠ B) (hne1 : b1 ≠ B) (hne2 : b2 ≠ B) :
    ChangeOk w0 N B InvU 1100000 220 #[.pointer (some ⟨b, 0, none⟩), .pointer (some ⟨b1, 0, none⟩), .pointer (some ⟨b2, 0, none⟩)] (rmQ r f) := by
  intro V C c R d o st t rd l inn x hk h hi hx
  have y0 := cell_of_one (box_kept hb hne hk)
  have y1 := cell_of_one (box_kept hb1 hne1 hk)
  have y2 := cell_of_one (box_kept hb2 hne2 hk)
  have c3 := h.cells.2.2.2.1
  have cR : Calls Tryz.prog 221 #[.slice C t.length c, encS x, .bool r] V.drew fun e w' => TellsN V.drew (remQ t x r) e w' := tRemove_any C c t x r V.drew (h.heap rfl).tree ⟨by have := hi.1.1; omega, h.hc⟩ hi.sz (by omega)
  have hS : Cells [(⟨b, 0, none⟩, .pointer (some ⟨B, 0, none⟩)), (⟨B, 3, none⟩, .slice C t.length c), (⟨b1, 0, none⟩, .bool r), (⟨b2, 0, none⟩, .bool f)] V.drew := fun z hz => by
    rcases List.mem_cons.1 hz with rfl | hz
    · exact y0
    rcases List.mem_cons.1 hz with rfl | hz
    · exact c3
    rcases List.mem_cons.1 hz with rfl | hz
    · exact y1
    rcases List.mem_cons.1 hz with rfl | hz
    · exact y2
    · cases hz
  have HH := hid h
  have HQ : Hid (rmQ r f t x = if (remQ t x r).2 = 71 ∧ f = true then (t, 0) else remQ t x r) := hid rfl
  generalize rmQ r f t x = qq at *
  generalize remQ t x r = qx at *
  obtain ⟨qt, qe⟩ := qx
  unfold TellsN at cR
  simp only at cR
  clear hb hb1 hb2 hk hi h
  show Calls _ _ #[encS x, .pointer (some ⟨b, 0, none⟩), .pointer (some ⟨b1, 0, none⟩), .pointer (some ⟨b2, 0, none⟩)] _ _
  go_enter Tryz.func220, Tryz.ntmps220
  go_wp2_with fail
  refine wp_region_held_drew (S := Cells [(⟨b, 0, none⟩, .pointer (some ⟨B, 0, none⟩)), (⟨B, 3, none⟩, .slice C t.length c), (⟨b1, 0, none⟩, .bool r), (⟨b2, 0, none⟩, .bool f)]) (by kernel_rfl) hS (fun _ => ?_)
  -- REGION
  refine takeH (i := 0) (d := some 10) (v := .pointer (some ⟨B, 0, none⟩)) rfl rfl (by kernel_rfl) (by kernel_rfl) (by kernel_rfl) (fun _ _ _ h => h) (Or.inl ⟨by rfl, fun w' hS' => by have s0 := hS' _ (.head _); dsimp only at s0; go_simp⟩) hS ?_
  try simp only [Act.put, List.setIfInBounds_toArray, List.set_cons_zero, List.set_cons_succ]
  refine takeH (i := 1) (d := some 11) (v := .pointer (some ⟨B, 0, none⟩)) rfl rfl (by kernel_rfl) (by kernel_rfl) (by kernel_rfl) (fun _ _ _ h => h) (Or.inl ⟨by rfl, fun w' _ => by go_simp⟩) hS ?_
  try simp only [Act.put, List.setIfInBounds_toArray, List.set_cons_zero, List.set_cons_succ]
  refine takeH (i := 2) (d := some 12) (v := .pointer (some ⟨B, 0, none⟩)) rfl rfl (by kernel_rfl) (by kernel_rfl) (by kernel_rfl) (fun _ _ _ h => h) (Or.inl ⟨by rfl, fun w' _ => by go_simp⟩) hS ?_
  try simp only [Act.put, List.setIfInBounds_toArray, List.set_cons_zero, List.set_cons_succ]
  refine takeH (i := 3) (d := some 13) (v := .pointer (some ⟨B, 3, none⟩)) rfl rfl (by kernel_rfl) (by kernel_rfl) (by kernel_rfl) (fun _ _ _ h => h) (Or.inl ⟨by rfl, fun w' _ => by go_simp⟩) hS ?_
  try simp only [Act.put, List.setIfInBounds_toArray, List.set_cons_zero, List.set_cons_succ]
  refine takeH (i := 4) (d := some 14) (v := .slice C t.length c) rfl rfl (by kernel_rfl) (by kernel_rfl) (by kernel_rfl) (fun _ _ _ h => h) (Or.inl ⟨by rfl, fun w' hS' => by have s1 := hS' _ (.tail _ (.head _)); dsimp only at s1; go_simp⟩) hS ?_
  try simp only [Act.put, List.setIfInBounds_toArray, List.set_cons_zero, List.set_cons_succ]
  refine takeH (i := 5) (d := some 15) (v := encS x) rfl rfl (by kernel_rfl) (by kernel_rfl) (by kernel_rfl) (fun _ _ _ h => h) (Or.inl ⟨by rfl, fun w' _ => by go_simp⟩) hS ?_
  try simp only [Act.put, List.setIfInBounds_toArray, List.set_cons_zero, List.set_cons_succ]
  refine takeH (i := 6) (d := some 16) (v := .bool r) rfl rfl (by kernel_rfl) (by kernel_rfl) (by kernel_rfl) (fun _ _ _ h => h) (Or.inl ⟨by rfl, fun w' hS' => by have s2 := hS' _ (.tail _ (.tail _ (.head _))); dsimp only at s2; go_simp⟩) hS ?_
  try simp only [Act.put, List.setIfInBounds_toArray, List.set_cons_zero, List.set_cons_succ]
  refine wpAnyH_ready (rs := [7]) (by kernel_rfl) (by simp) (AllReadyH.cons rfl (fun K hK => ?_) AllReadyH.nil)
  go_simp
  go_at_call 221
  refine cR.mono ?_
  rintro e w2 ⟨C', c', rfl, hO, hb1⟩
  have hS1 := hS.below hb1
  have HO := hid (And.intro hO.nodes (And.intro hO.cap hb1))
  clear hO hb1 cR
  go_wp2_with fail
  refine hK.out _ _ hS1 (fun _ => ?_)
  clear hK K
  try simp only [Act.put, List.setIfInBounds_toArray, List.set_cons_zero, List.set_cons_succ]
  refine takeH (i := 8) (d := some 9) (v := Value.tuple #[.slice C' qt.length c', .int .i64 qe]) rfl rfl (by kernel_rfl) (by kernel_rfl) (by kernel_rfl) (fun _ _ _ h => h) (Or.inl ⟨by rfl, fun w' _ => by go_simp⟩) hS1 ?_
  try simp only [Act.put, List.setIfInBounds_toArray, List.set_cons_zero, List.set_cons_succ]
  refine takeH (i := 9) (d := some 18) (v := .slice C' qt.length c') rfl rfl (by kernel_rfl) (by kernel_rfl) (by kernel_rfl) (fun _ _ _ h => h) (Or.inl ⟨by rfl, fun w' _ => by go_simp⟩) hS1 ?_
  try simp only [Act.put, List.setIfInBounds_toArray, List.set_cons_zero, List.set_cons_succ]
  refine takeH (i := 10) (d := some 19) (v := .int .i64 qe) rfl rfl (by kernel_rfl) (by kernel_rfl) (by kernel_rfl) (fun _ _ _ h => h) (Or.inl ⟨by rfl, fun w' _ => by go_simp⟩) hS1 ?_
  try simp only [Act.put, List.setIfInBounds_toArray, List.set_cons_zero, List.set_cons_succ]
  refine takeH (i := 11) (d := some 7) (v := .slice C' qt.length c') rfl rfl (by kernel_rfl) (by kernel_rfl) (by kernel_rfl) (fun _ _ _ h => h) (Or.inl ⟨by rfl, fun w' _ => by go_simp⟩) hS1 ?_
  try simp only [Act.put, List.setIfInBounds_toArray, List.set_cons_zero, List.set_cons_succ]
  refine takeH (i := 12) (d := some 8) (v := .int .i64 qe) rfl rfl (by kernel_rfl) (by kernel_rfl) (by kernel_rfl) (fun _ _ _ h => h) (Or.inl ⟨by rfl, fun w' _ => by go_simp⟩) hS1 ?_
  try simp only [Act.put, List.setIfInBounds_toArray, List.set_cons_zero, List.set_cons_succ]
  refine wpAnyH_done (by kernel_rfl) ?_ _
  clear hS hS1
  obtain ⟨hO1, hO2, hO3⟩ := HO.out
  have hO3 : Below V.heap.size V w2 := (Below.refl _ V).drew.trans hO3
  have HJ := hid (HH.out.below hO3)
  have y0 := cell_below hO3 y0
  have y2 := cell_below hO3 y2
  have c3 := cell_below hO3 c3
  have HO := hid (And.intro hO1 (And.intro hO2 hO3))
  clear hO1 hO2 hO3
  by_cases h71 : qe = 71
  · subst h71
    cases f
    · have HQ2 := hid (HQ.out.trans (if_neg (by simp))); clear HQ
      go_wp2_with fail
      go_ret2
      obtain rfl := HQ2.out
      refine ⟨⟨C', c', rfl, fun h0 => ?_⟩, HO.out.2.2⟩
      exact absurd h0 (by show ¬ (71 : Int) = 0; decide)
    · have HQ2 := hid (HQ.out.trans (if_pos ⟨rfl, rfl⟩)); clear HQ
      go_wp2_with fail
      go_ret2
      obtain rfl := HQ2.out
      exact ⟨⟨C, c, rfl, fun _ => ⟨HJ.out.nodes, HJ.out.hc⟩⟩, HO.out.2.2⟩
  · have h71b : (qe == 71) = false := by simpa using h71
    have HQ2 := hid (HQ.out.trans (if_neg (fun h => h71 h.1))); clear HQ
    go_wp2_with fail
    go_ret2
    obtain rfl := HQ2.out
    refine ⟨⟨C', c', rfl, fun _ => ⟨HO.out.1.frame fun g _ hp => ⟨?_, rfl⟩, HO.out.2.1⟩⟩, HO.out.2.2⟩
    have hp : V.heap.size ≤ g := hp
    have h1 := HH.out.lt
    have h2 := HH.out.le
    omega
  -- END
end
end Go.Proofs.YtgbibgppjicbgaaGreatDoor
namespace Go.Proofs.YtgbibgppjicbgaaGreatDoor
open Go.RowKit
open Go.Lib (hid)
def ChgPost (W : World) (N B : Nat) (C : Option Addr) (c : Nat) (t : List ND) (inn : List UInt8) (bad : Prop) (rest : List (List UInt8)) (Q : List ND → List UInt8 → List ND × Int) (e : Ending) (w' : World) : Prop :=
  Kept B W w' ∧ ((bad ∧ e = .panicked [faultU 2 0]) ∨ (¬ bad ∧ ∃ g caps, e = .returned (.func (.func g) #[] caps) ∧ (∀ args w, (callFunc g args).run Tryz.prog w = .ok (.enter g args) w) ∧ (∃ R' d', JobAt w' N B C c R' d' [] 0 t false rest inn) ∧ ChangeOk w' N B InvU 1100000 g caps Q))
section
variable {W : World} {N B : Nat} {C : Option Addr} {c : Nat} {R : Option Addr} {d : Nat} {t : List ND} {l args : List (List UInt8)} {inn : List UInt8}
set_option linter.unusedSimpArgs false in
set_option maxRecDepth 100000 in
set_option maxHeartbeats 8000000 in
theorem run_change (name : List UInt8) (hn : name = [114, 109] ∨ name = [109, 107, 100, 105, 114] ∨ name = [116, 111, 117, 99, 104]) (hi : InvU t) (bad : Prop) (rest : List (List UInt8)) (Q : List ND → List UInt8 → List ND × Int) (hQi : ∀ t x, InvU t → x.length + 1 ≤ 1100000 → (Q t x).2 = 0 → InvU (Q t x).1) (hl : sizeTs rest ≤ 1100000)
    (cF : Calls Tryz.prog 57 #[.pointer (some ⟨B, 0, none⟩), encS name] W fun e w' => ChgPost W N B C c t inn bad rest Q e w') (q : UQ) (h1 : bad → q = usageU t) (h2 : ¬ bad → (lettersL [] [] rest).ok = false → q = usageU t)
    (h3 : ¬ bad → (lettersL [] [] rest).ok = true → q = fullU t ((lettersL [] [] rest).rest.foldl (eachS Q) (some (t, 0)))) :
    Calls Tryz.prog 23 #[.pointer (some ⟨B, 0, none⟩), encS name] W fun e w' => RunJ W N B t inn q e w' := by
  have hls := letters_size [] rest []
  have cL := fun V R d (h : JobAt V N B C c R d [] 0 t false rest inn) => letters_any [] (by decide) (by decide) h (by omega)
  generalize lettersL [] [] rest = q0 at *
  obtain ⟨qo, qr, qk⟩ := q0
  simp only [List.length_nil, Nat.zero_add] at hls
  have hqr : sizeTs qr ≤ 1100000 := by omega
  unfold LettersPost at cL
  simp only at cL h2 h3
  have cE := fun (g : Nat) (caps : Array Value) (eg : ∀ args w, (callFunc g args).run Tryz.prog w = .ok (.enter g args) w) (w0 V : World) R d (hQ : ChangeOk w0 N B InvU 1100000 g caps Q) (hk : Kept B w0 V) (h : JobAt V N B C c R d [] 0 t false qr inn) => each_any g caps eg Q InvU 1100000 hQi hQ hk h hi hqr (by decide)
  generalize qr.foldl (eachS Q) (some (t, 0)) = fq at *
  have HC := hid (And.intro cL cE)
  have H1 := hid h1
  have H2 := hid h2
  have H3 := hid h3
  clear cL cE hls h1 h2 h3
  rcases hn with rfl | rfl | rfl
  all_goals
    go_enter Tryz.func23, Tryz.ntmps23
    go_wp2_with fail
    refine cF.mono ?_
    rintro e w1 ⟨hk1, ⟨hbad, rfl⟩ | ⟨hnb, g, caps, rfl, eg, ⟨R1, d1, hJ1⟩, hFn⟩⟩
    · go_wp2_with fail
      exact ⟨rfl, hk1, .inl ⟨2, 0, rfl, H1.out hbad⟩⟩
    · have cL := HC.out.1 w1 R1 d1 hJ1
      have HK1 := hid hk1
      have HF := hid hFn
      have HG := hid eg
      clear cF hk1 hFn hJ1 eg
      go_wp2_with fail
      refine cL.mono ?_
      rintro e w2 (⟨rfl, rfl, hk2⟩ | ⟨rfl, rfl, ⟨R2, d2, hJ2⟩, hk2⟩)
      · go_wp2_with fail
        exact ⟨rfl, HK1.out.trans hk2, .inl ⟨2, 0, rfl, H2.out hnb (by trivial)⟩⟩
      · have cE := HC.out.2 g caps HG.out w1 w2 R2 d2 HF.out hk2 hJ2
        have HK2 := hid (HK1.out.trans hk2)
        clear cL hk2 hJ2 HF HG
        go_wp2_with fail
        refine cE.mono ?_
        rintro e w3 ⟨hk3, ⟨hq, rfl⟩ | ⟨t', s', C', c', hq, rfl, hJ3⟩⟩
        · go_wp2_with fail
          exact ⟨rfl, HK2.out.trans hk3, .inl ⟨1, 17, rfl, by rw [H3.out hnb (by trivial), hq]; rfl⟩⟩
        · have HJ3 := hid hJ3
          have HK3 := hid (HK2.out.trans hk3)
          have HQ := hid (show q = tellU t' [] s' by rw [H3.out hnb (by trivial), hq]; rfl)
          clear hJ3 hk3 cE hq
          go_wp2_with fail
          go_end0
          rw [HQ.out]
          exact ⟨HK3.out, .inr ⟨rfl, rfl, C', c', _, _, _, HJ3.out⟩⟩
set_option linter.unusedSimpArgs false in
set_option maxHeartbeats 2000000 in
theorem chg_touch (h : JobAt W N B C c R d [] 0 t false args inn) (hl : args.length ≤ 1099511627776) :
    Calls Tryz.prog 57 #[.pointer (some ⟨B, 0, none⟩), encS [116, 111, 117, 99, 104]] W fun e w' => ChgPost W N B C c t inn (args = []) args touchQ e w' := by
  obtain ⟨V, hV⟩ : ∃ V, W.alloc (.cells #[.pointer (some ⟨B, 0, none⟩)] 68) = V := ⟨_, rfl⟩
  have hb : Below W.heap.size W V := by rw [← hV]; exact (Below.refl _ _).alloc (Nat.le_refl _) _
  have hbx : V.heap[W.heap.size]? = some (.cells #[.pointer (some ⟨B, 0, none⟩)] 68 (0, 0)) := by rw [← hV]; exact heap_alloc_new _ _
  have hlt := h.lt
  have hJ := h.below hb
  have y0 := cell_of_one hbx
  have c5 := hJ.cells.2.2.2.2.2.1
  have HJ := hid hJ
  have HK := hid (Kept.of_below (B := B) hb)
  have HT := hid (show ChangeOk V N B InvU 1100000 137 #[.pointer (some ⟨W.heap.size, 0, none⟩)] touchQ from touch_ok hbx (by omega))
  clear hb hbx h hJ
  cases args with
  | nil =>
    simp only [List.length_nil] at c5
    go_enter Tryz.func57, Tryz.ntmps57
    go_wp2_with fail
    refine (must_false _).mono ?_
    rintro e w1 ⟨rfl, rfl⟩
    go_wp2_with fail
    exact ⟨rfl, HK.out, .inl ⟨by trivial, rfl⟩⟩
  | cons x r =>
    simp only [List.length_cons] at c5 hl
    have h0 : (0 : Int) < (((r.length + 1 : Nat)) : Int) := by omega
    have HN : Hid (¬ (x :: r) = []) := hid (by simp)
    go_enter Tryz.func57, Tryz.ntmps57
    go_wp2_with fail
    refine (must_true _).mono ?_
    rintro e w1 ⟨rfl, rfl⟩
    go_wp2_with fail
    go_ret
    exact ⟨HK.out, .inr ⟨HN.out, _, _, rfl, enters_of Tryz.func137 (by kernel_rfl) rfl, ⟨_, _, HJ.out⟩, HT.out⟩⟩
theorem run_touch (h : JobAt W N B C c R d [] 0 t false args inn) (hi : InvU t) (hl : sizeTs args ≤ 1100000) :
    Calls Tryz.prog 23 #[.pointer (some ⟨B, 0, none⟩), encS [116, 111, 117, 99, 104]] W fun e w' => RunJ W N B t inn (dispU [116, 111, 117, 99, 104] args inn t) e w' := by
  refine run_change _ (.inr (.inr rfl)) hi _ _ touchQ touch_inv hl (chg_touch h (by have := sizeTs_len args; omega)) _ (fun hb => ?_) (fun hb hk => ?_) (fun hb hk => ?_)
  all_goals show touchU t args = _; unfold touchU
  · rw [if_pos (.inr (by rw [hb]; rfl))]
  · rw [if_pos (.inl hk)]
  · have hr : (lettersL [] [] args).rest = args := by
      cases args with
      | nil => rfl
      | cons x r =>
        rw [letters_cons] at hk ⊢
        by_cases hx : optB x = true
        · rw [if_pos hx] at hk
          by_cases hy : (x.drop 1).all (([] : List UInt8).contains ·) = true
          · exfalso
            unfold optB at hx
            split at hx
            · simp at hy
            · cases hx
          · rw [if_neg hy] at hk; cases hk
        · rw [if_neg hx]
    rw [if_neg (by rintro (h | h); rw [hk] at h; cases h; rw [hr] at h; exact hb h), each_touch]
end
end Go.Proofs.YtgbibgppjicbgaaGreatDoor
