/- tree.written's closure, walked. Conditions: sizes; a tree that may be. -/
import Derived.Test.YtngllipfnbmpeaaPgL
import Derived.Deep.QuietTactic
import Derived.BigQuiet
import Derived.Test.YtngllipfnbmpeaaDrawn
namespace Go.Proofs.Ytngllipfnbmpeaa
open Go.RowKit
open Go.Lib (hid)

/-- What a closure that at calls leaves: a tree in the variable ab, and a number. -/
def ClosR (N ab : Nat) (w0 : World) (q : List ND × Int) (n : Int) (W' : World) : Prop :=
  n = q.2 ∧ ∃ a c, W'.heap[ab]? = some (.cells #[.slice a q.1.length c] 22 (0, 0)) ∧ OwnN W' N a c q.1 ∧ Below N w0 W'
theorem closR_nil {N ab : Nat} {w0 W' : World} {q : List ND × Int} {f : Int} (hq : q = ([], f)) (h4 : W'.heap[ab]? = some (.cells #[.slice none 0 0] 22 (0, 0))) (hB : Below N w0 W') : AtPost (ClosR N ab w0 q) (.returned (.int .i64 f)) W' := by
  subst hq
  exact ⟨f, rfl, rfl, none, 0, h4, World.ownsRow_nil _ _ _ _, hB⟩
/-- What stands behind place b of a slice of nodes. -/
theorem nodes_drop {w : World} {A : Option Addr} {c b : Nat} {t : List ND} (h : NodesP w (fun _ => True) A t) (hc : t.length ≤ c) : NodesP w (fun _ => True) (if c = b then A else A.map (·.add (b * 3))) (t.drop b) := fun j hj => by
  rw [List.length_drop] at hj
  obtain ⟨g, o, rfl, _, c0, c1, c2⟩ := h (b + j) (by omega)
  rw [if_neg (by omega)]
  refine ⟨g, o + b * 3, by simp [add_at], trivial, ?_, ?_, ?_⟩
  · rw [List.getElem_drop, show o + b * 3 + j * 3 = o + (b + j) * 3 by omega]; exact c0
  · rw [List.getElem_drop, show o + b * 3 + j * 3 = o + (b + j) * 3 by omega]; exact c1
  · rw [List.getElem_drop, show o + b * 3 + j * 3 = o + (b + j) * 3 by omega]; exact c2

theorem okT_x {t : List ND} (h : OkT t) {n : ND} (hn : n ∈ t) : n.x.length ≤ 65536 := Nat.le_trans (sumX_mem hn) h.sum
/-- joined, at a list, a node and a list, as written lays them. -/
theorem joined3 (A D : Option Addr) (c1 c3 : Nat) (l1 l3 : List ND) (n : ND) (w5 : World) (h1 : NodesP w5 (fun _ => True) A l1) (h3 : NodesP w5 (fun _ => True) D l3) (ht : (l1 ++ n :: l3).length ≤ 1048576) (hz : SizeT (l1 ++ n :: l3)) :
    Calls Try.prog 49 #[.slice (some ⟨w5.heap.size + 1, 0, none⟩) 3 3] ((w5.drew.alloc (.cells #[encS n.p, .bool n.d, encS n.x] 53)).alloc (.cells #[.slice A l1.length c1, .slice (some ⟨w5.heap.size, 0, none⟩) 1 1, .slice D l3.length c3] 22))
      fun e w' => ∃ a c', e = .returned (.slice a (l1 ++ n :: l3).length c') ∧ OwnN w' w5.heap.size a c' (l1 ++ n :: l3) ∧ Below w5.heap.size w5 w' := by
  obtain ⟨ss, hss⟩ : ∃ ss : List (Option Addr × Nat × List ND), ss = [(A, c1, l1), (some ⟨w5.heap.size, 0, none⟩, 1, [n]), (D, c3, l3)] := ⟨_, rfl⟩
  have hall : allN ss = l1 ++ n :: l3 := by rw [hss]; simp [allN]
  have hb : Below w5.heap.size w5 (w5.drew.alloc (.cells #[encS n.p, .bool n.d, encS n.x] 53)) := (Below.refl _ w5).drew.alloc (Nat.le_refl _) _
  have hn0 : (w5.drew.alloc (.cells #[encS n.p, .bool n.d, encS n.x] 53)).heap[w5.heap.size]? = some (.cells #[encS n.p, .bool n.d, encS n.x] 53 (0, 0)) := heap_alloc_new w5.drew _
  have hz0 : (w5.drew.alloc (.cells #[encS n.p, .bool n.d, encS n.x] 53)).heap.size = w5.heap.size + 1 := by simp
  generalize w5.drew.alloc (.cells #[encS n.p, .bool n.d, encS n.x] 53) = w6 at *
  obtain ⟨o6, ho6⟩ : ∃ o6, (Obj.cells #[.slice A l1.length c1, .slice (some ⟨w5.heap.size, 0, none⟩) 1 1, .slice D l3.length c3] 22) = o6 := ⟨_, rfl⟩
  rw [ho6]
  have hb6 : Below w6.heap.size w6 (w6.alloc o6) := (Below.refl _ _).alloc (Nat.le_refl _) _
  have hb7 := hb.trans (hb6.mono hb.size)
  have hk : (w6.alloc o6).heap[w5.heap.size + 1]? = some (.cells #[.slice A l1.length c1, .slice (some ⟨w5.heap.size, 0, none⟩) 1 1, .slice D l3.length c3] 22 (0, 0)) := by
    have := heap_alloc_new w6 o6
    rw [hz0] at this
    rw [this, ← ho6]
  have hn1 := heap_below' hn0 hb6
  have hsz : (w6.alloc o6).heap.size = w5.heap.size + 2 := by simp [hz0]
  generalize w6.alloc o6 = w7 at *
  have hS : SlicesP w7 (w5.heap.size + 1) 0 ss := fun k hk' => by
    subst hss
    match k, hk' with
    | 0, _ => exact ⟨by simp [World.cell?, hk], h1.below hb7⟩
    | 1, _ =>
      refine ⟨by simp [World.cell?, hk], fun j hj => ?_⟩
      obtain rfl : j = 0 := by simpa using hj
      exact ⟨w5.heap.size, 0, rfl, trivial, by simp [World.cell?, hn1], by simp [World.cell?, hn1], by simp [World.cell?, hn1]⟩
    | 2, _ => exact ⟨by simp [World.cell?, hk], h3.below hb7⟩
  have cJ := joined_any (w5.heap.size + 1) 0 3 ss w7 hS (by rw [hss]; simp) (by rw [hall]; exact ht) (by rw [hall]; exact hz)
  rw [hall, show ss.length = 3 by rw [hss]; rfl] at cJ
  refine cJ.mono ?_
  rintro e w' ⟨a, c', rfl, hO, hb8⟩
  exact ⟨a, c', rfl, own_down hO (by omega), hb7.trans (hb8.mono (by omega))⟩

set_option maxRecDepth 100000 in
set_option maxHeartbeats 16000000 in
theorem writtenFn (g0 : Nat) (eg0 : ∀ args w, (callFunc g0 args).run Try.prog w = .ok (.enter g0 args) w) (k : List UInt8 → List UInt8) (hk : ∀ old W, Calls Try.prog g0 #[encS old] W fun e w' => e = .returned (encS (k old)) ∧ W = w') (hkl : ∀ old, (k old).length ≤ old.length)
    (A : Option Addr) (c : Nat) (t : List ND) (P x : List UInt8) (tb kb db ab N : Nat) (w0 W : World) (hN : N ≤ ab) (hne : tb ≠ ab ∧ db ≠ ab)
    (h1 : W.heap[tb]? = some (.cells #[.slice A t.length c] 22 (0, 0))) (h2 : W.heap[kb]? = some (.cells #[.func (.func g0) #[] #[]] 48 (0, 0))) (h3 : W.heap[db]? = some (.cells #[encS x] 9 (0, 0))) (h4 : W.heap[ab]? = some (.cells #[.slice none 0 0] 22 (0, 0)))
    (hB : Below N w0 W) (hT : NodesP W (fun _ => True) A t) (hok : OkT t) (hz : SizeT t) (hcap : t.length ≤ c) (hPp : pathL P = P) (hP0 : P ≠ []) (hPl : P.length ≤ 274877906944) (hx : x.length ≤ 137438953472) :
    Calls Try.prog 47 #[.agg #[encS P, .int .i64 (whereN t P), .int .i64 (kindL t P)], .pointer (some ⟨tb, 0, none⟩), .pointer (some ⟨kb, 0, none⟩), .pointer (some ⟨db, 0, none⟩), .pointer (some ⟨ab, 0, none⟩)] W (AtPost (ClosR N ab w0 (writtenQ t P (k (oldL t P) ++ x)))) := by
  have hNW : N ≤ W.heap.size := by have := lt_of_block h4; omega
  have h256 := hok.1
  obtain ⟨W1, hW1⟩ : ∃ W1, W.alloc (.cells #[encS P, .int .i64 (whereN t P), .int .i64 (kindL t P)] 51) = W1 := ⟨_, rfl⟩
  have hal : Below W.heap.size W W1 := by rw [← hW1]; exact (Below.refl _ _).alloc (Nat.le_refl _) _
  have hsp : W1.heap[W.heap.size]? = some (.cells #[encS P, .int .i64 (whereN t P), .int .i64 (kindL t P)] 51 (0, 0)) := by rw [← hW1]; exact heap_alloc_new _ _
  have g1 := heap_below' h1 hal; have g2 := heap_below' h2 hal; have g3 := heap_below' h3 hal; have g4 := heap_below' h4 hal
  have hT1 := hT.below hal
  have hB1 := hB.trans (hal.mono hNW)
  have hsbne : W.heap.size ≠ ab := by have := lt_of_block h4; omega
  have hN1 : N ≤ W1.heap.size := Nat.le_trans hNW hal.size
  have x0 : W1.cell? ⟨W.heap.size, 0, none⟩ = some (encS P) := by simp [World.cell?, hsp]
  have x1 : W1.cell? ⟨W.heap.size, 1, none⟩ = some (.int .i64 (whereN t P)) := by simp [World.cell?, hsp]
  have x2 : W1.cell? ⟨W.heap.size, 2, none⟩ = some (.int .i64 (kindL t P)) := by simp [World.cell?, hsp]
  have y1 := cell_of_one g1; have y2 := cell_of_one g2; have y3 := cell_of_one g3
  by_cases hK : kindL t P = 2
  · have HQ : Hid (writtenQ t P (k (oldL t P) ++ x) = ([], 15)) := hid (by unfold writtenQ; rw [if_pos hK])
    rw [hK] at x2 hW1 ⊢
    have HF := hid (And.intro g4 hB1)
    clear hT hT1 hok hz hK g1 g2 g3 g4 h1 h2 h3 h4 hsp hB hB1 y1 y2 y3 x0 x1 hk hkl
    go_enter Try.func47, Try.ntmps47
    go_wp2
    go_ret
    exact closR_nil HQ.out HF.out.1 HF.out.2
  have h47 : P ≠ [47] := fun e => hK (by rw [e]; exact kind_root t)
  have HRH : Hid (∀ more, roomR t P (kindL t P) more = if roomL t P ≠ 0 then roomL t P else if (kindL t P = 0 ∧ 256 ≤ t.length) ∨ 65536 < (sumX t : Int) + more then 17 else 0) := hid (fun more => room_home hPp h47 (kindL t P) more)
  have HFR := hid (fits_room (y := k (oldL t P) ++ x) hok hK)
  have HWP := hid (with_parts (y := k (oldL t P) ++ x) hok hK)
  have HBL := hid (behind_le hok hK)
  have hwl := where_le t P
  have HQ : Hid (writtenQ t P (k (oldL t P) ++ x) = if roomL t P ≠ 0 then ([], roomL t P) else fitsQ (withL t ⟨P, false, k (oldL t P) ++ x⟩)) := hid (by unfold writtenQ; rw [if_neg hK])
  have cR := fun more W2 (hb : Below W1.heap.size W1 W2) hm => room_any A c t P (whereN t P) (kindL t P) more W2 (hT1.below hb) hok hz hP0 (by omega) hm
  have hko := hkl (oldL t P)
  have cK := fun W2 => hk (oldL t P) W2
  have hjN : ∀ W2, Below W1.heap.size W1 W2 → NodesP W2 (fun _ => True) A (t.take (whereN t P)) ∧ NodesP W2 (fun _ => True) (if c = behindN t P then A else A.map (·.add (behindN t P * 3))) (t.drop (behindN t P)) := fun W2 hb => ⟨nodes_take (hT1.below hb) _, nodes_drop (hT1.below hb) hcap⟩
  rcases old_cases hok.asc hK with ⟨hK0, hf, ho⟩ | ⟨hK1, hw, hf, ho⟩
  · rw [ho] at HQ HFR HWP cK hko ⊢
    rw [hK0] at HRH HFR cR x2 hW1 hsp ⊢
    have hbe : behindN t P = whereN t P := by unfold behindN; rw [hK0]; rfl
    rw [hbe] at HWP hjN HBL
    simp only [List.length_nil] at hko
    have hko : k [] = [] := List.eq_nil_of_length_eq_zero (by omega)
    rw [hko] at HQ HFR HWP cK ⊢
    rw [List.nil_append] at HQ HFR HWP ⊢
    clear hK hK0 hf ho hbe hT hT1 h1 h2 h3 h4 hk hkl
    go_enter Try.func47, Try.ntmps47
    go_wp2_with fail
    go_quiet (fail)
    go_wp2_with (go_at_fn g0; refine (cK _).mono ?_; rintro e w2 ⟨rfl, rfl⟩)
    refine (cR (x.length : Int) _ (below_drewN (Below.refl _ _) _) (by omega)).mono ?_
    rintro e w5 ⟨rfl, hb5'⟩
    have hb5 : Below W1.heap.size W1 w5 := (below_drewN (Below.refl _ W1) _).trans hb5'
    have HR := hid (HRH.out (x.length : Int))
    have g5 := heap_below' g4 hb5
    have hB5 := hB1.trans (hb5.mono hN1)
    by_cases hroom : roomL t P = 0
    rotate_left
    · have HR2 : Hid (roomR t P 0 (x.length : Int) = roomL t P) := hid (by rw [HR.out, if_pos hroom])
      have HQ2 : Hid (writtenQ t P (x) = ([], roomL t P)) := hid (by rw [HQ.out, if_pos hroom])
      have q1 : (roomL t P == 0) = false := by simpa using hroom
      have q2 : (roomL t P != 0) = true := by simpa using hroom
      rw [HR2.out]
      have HF := hid (And.intro g5 hB5)
      generalize roomL t P = RL at *
      clear HR HR2 HQ HRH cR cK hjN hb5 hb5' g5 hB5 g1 g2 g3 g4 y1 y2 y3 x0 x1 x2 hroom hsp hok hz HFR HWP HBL
      go_wp2
      go_ret
      exact closR_nil HQ2.out HF.out.1 HF.out.2
    have HR1 : Hid (roomR t P 0 (x.length : Int) = if 256 ≤ t.length ∨ 65536 < (sumX t : Int) + (x.length : Int) then 17 else 0) := hid (by rw [HR.out, if_neg (by simpa using hroom)]; simp)
    have HQ1 : Hid (writtenQ t P (x) = fitsQ (withL t ⟨P, false, x⟩)) := hid (by rw [HQ.out, if_neg (by simpa using hroom)])
    have hiff : (256 ≤ t.length ∨ 65536 < (sumX t : Int) + (x.length : Int)) ↔ ¬ ((withL t ⟨P, false, x⟩).length ≤ 256 ∧ sumX (withL t ⟨P, false, x⟩) ≤ 65536) := by
      have := HFR.out
      simpa using this
    by_cases hfull : 256 ≤ t.length ∨ 65536 < (sumX t : Int) + (x.length : Int)
    · have HR2 : Hid (roomR t P 0 (x.length : Int) = 17) := hid (by rw [HR1.out, if_pos hfull])
      have HQ2 : Hid (writtenQ t P (x) = ([], 17)) := hid (by
        rw [HQ1.out]
        exact if_neg (hiff.1 hfull))
      rw [HR2.out]
      have HF := hid (And.intro g5 hB5)
      clear HR HR1 HR2 HQ HQ1 HRH cR cK hjN hb5 hb5' g5 hB5 g1 g2 g3 g4 y1 y2 y3 x0 x1 x2 hroom hsp hok hz HFR HWP HBL hfull hiff
      go_wp2
      go_ret
      exact closR_nil HQ2.out HF.out.1 HF.out.2
    have HR2 : Hid (roomR t P 0 (x.length : Int) = 0) := hid (by rw [HR1.out, if_neg hfull])
    have hfit := Classical.not_not.1 (fun h => hfull (hiff.2 h))
    rw [HR2.out]
    have hwz : SizeT (withL t ⟨P, false, x⟩) := fun n hn => by
      rcases withL_mem hn with rfl | h
      · exact ⟨hPl, by show (x).length ≤ _; omega⟩
      · exact hz n h
    have HQ := hid (show writtenQ t P (x) = (withL t ⟨P, false, x⟩, 0) by rw [HQ1.out]; exact if_pos hfit)
    have hlen := hfit.1
    rw [HWP.out] at HQ hlen hwz
    obtain ⟨hj1, hj3⟩ := hjN w5 hb5
    have hJ := joined3 A _ c (c - (whereN t P)) _ _ ⟨P, false, x⟩ w5 hj1 hj3 (by omega) hwz
    obtain ⟨Z, hZ⟩ : ∃ Z, t.take (whereN t P) ++ (⟨P, false, x⟩ :: t.drop (whereN t P)) = Z := ⟨_, rfl⟩
    rw [hZ, List.length_take, Nat.min_eq_left hwl, List.length_drop] at hJ
    rw [hZ] at HQ
    have hbl := HBL.out
    have hcw : whereN t P ≤ c := by omega
    generalize whereN t P = wh at *
    obtain ⟨D, hD⟩ : ∃ D, (if c = wh then A else A.map (·.add (wh * 3))) = D := ⟨_, rfl⟩
    rw [hD] at hJ
    have hS : Cells [(⟨tb, 0, none⟩, .slice A t.length c), (⟨W.heap.size, 1, none⟩, .int .i64 (wh : Int)), (⟨W.heap.size, 0, none⟩, encS P), (⟨db, 0, none⟩, encS x)] w5.drew := fun z hz => by
      rcases List.mem_cons.1 hz with rfl | hz
      · exact (show w5.cell? _ = _ from cell_below hb5 y1)
      rcases List.mem_cons.1 hz with rfl | hz
      · exact (show w5.cell? _ = _ from cell_below hb5 x1)
      rcases List.mem_cons.1 hz with rfl | hz
      · exact (show w5.cell? _ = _ from cell_below hb5 x0)
      rcases List.mem_cons.1 hz with rfl | hz
      · exact (show w5.cell? _ = _ from cell_below hb5 y3)
      · cases hz
    have hfar : ∀ q ∈ [((⟨tb, 0, none⟩ : Addr), Value.slice A t.length c), (⟨W.heap.size, 1, none⟩, .int .i64 (wh : Int)), (⟨W.heap.size, 0, none⟩, encS P), (⟨db, 0, none⟩, encS x)], q.1.block ≠ ab := fun q hq => by
      rcases List.mem_cons.1 hq with rfl | hq
      · exact hne.1
      rcases List.mem_cons.1 hq with rfl | hq
      · exact hsbne
      rcases List.mem_cons.1 hq with rfl | hq
      · exact hsbne
      rcases List.mem_cons.1 hq with rfl | hq
      · exact hne.2
      · cases hq
    have hlt5 := lt_of_block g5
    have hfar2 : ∀ j, w5.heap.size ≤ j → j ≠ ab := fun j hj => by omega
    clear HR HR1 HR2 HQ1 HRH cR cK hjN hb5' hB5 g1 g2 g3 g4 y1 y2 y3 x0 x1 x2 hroom hsp hok hz HFR HWP HBL hfull hiff hZ hj1 hj3 hwz hlen hfit
    have hadd : (⟨#[]⟩ : ByteArray) ++ ⟨x.toArray⟩ = ⟨x.toArray⟩ := bytes_app [] x
    have hxm : x.length ≤ 9223372036854775807 := by omega
    go_wp2_with fail
    refine wp_region_held_drew (S := Cells [(⟨tb, 0, none⟩, .slice A t.length c), (⟨W.heap.size, 1, none⟩, .int .i64 (wh : Int)), (⟨W.heap.size, 0, none⟩, encS P), (⟨db, 0, none⟩, encS x)]) (by kernel_rfl) hS (fun _ => ?_)
    refine takeH (i := 0) (d := some 45) (v := .slice A t.length c) rfl rfl (by kernel_rfl) (by kernel_rfl) (by kernel_rfl) (fun _ _ _ h => h) (Or.inl ⟨by rfl, fun w' hS' => by have s0 := hS' _ (.head _); dsimp only at s0; go_simp⟩) hS ?_
    try simp only [Act.put, List.setIfInBounds_toArray, List.set_cons_zero, List.set_cons_succ]
    refine takeH (i := 1) (d := some 46) (v := .pointer (some ⟨W.heap.size, 1, none⟩)) rfl rfl (by kernel_rfl) (by kernel_rfl) (by kernel_rfl) (fun _ _ _ h => h) (Or.inl ⟨by rfl, fun w' _ => by go_simp⟩) hS ?_
    try simp only [Act.put, List.setIfInBounds_toArray, List.set_cons_zero, List.set_cons_succ]
    refine takeH (i := 2) (d := some 47) (v := .int .i64 (wh : Int)) rfl rfl (by kernel_rfl) (by kernel_rfl) (by kernel_rfl) (fun _ _ _ h => h) (Or.inl ⟨by rfl, fun w' hS' => by have s1 := hS' _ (.tail _ (.head _)); dsimp only at s1; go_simp⟩) hS ?_
    try simp only [Act.put, List.setIfInBounds_toArray, List.set_cons_zero, List.set_cons_succ]
    refine takeH (i := 3) (d := some 48) (v := .slice A wh c) rfl rfl (by kernel_rfl) (by kernel_rfl) (by kernel_rfl) (fun _ _ _ h => h) (Or.inl ⟨by rfl, fun w' _ => by go_simp⟩) hS ?_
    try simp only [Act.put, List.setIfInBounds_toArray, List.set_cons_zero, List.set_cons_succ]
    refine takeH (i := 4) (d := some 49) (v := .pointer (some ⟨W.heap.size, 0, none⟩)) rfl rfl (by kernel_rfl) (by kernel_rfl) (by kernel_rfl) (fun _ _ _ h => h) (Or.inl ⟨by rfl, fun w' _ => by go_simp⟩) hS ?_
    try simp only [Act.put, List.setIfInBounds_toArray, List.set_cons_zero, List.set_cons_succ]
    refine takeH (i := 5) (d := some 50) (v := encS P) rfl rfl (by kernel_rfl) (by kernel_rfl) (by kernel_rfl) (fun _ _ _ h => h) (Or.inl ⟨by rfl, fun w' hS' => by have s2 := hS' _ (.tail _ (.tail _ (.head _))); dsimp only at s2; go_simp⟩) hS ?_
    try simp only [Act.put, List.setIfInBounds_toArray, List.set_cons_zero, List.set_cons_succ]
    refine takeH (i := 6) (d := some 51) (v := encS []) rfl rfl (by kernel_rfl) (by kernel_rfl) (by kernel_rfl) (fun _ _ _ h => h) (Or.inl ⟨by rfl, fun w' _ => by go_simp⟩) hS ?_
    try simp only [Act.put, List.setIfInBounds_toArray, List.set_cons_zero, List.set_cons_succ]
    refine takeH (i := 7) (d := some 52) (v := encS x) rfl rfl (by kernel_rfl) (by kernel_rfl) (by kernel_rfl) (fun _ _ _ h => h) (Or.inl ⟨by rfl, fun w' hS' => by have s3 := hS' _ (.tail _ (.tail _ (.tail _ (.head _)))); dsimp only at s3; go_simp⟩) hS ?_
    try simp only [Act.put, List.setIfInBounds_toArray, List.set_cons_zero, List.set_cons_succ]
    refine takeH (i := 8) (d := some 53) (v := encS x) rfl rfl (by kernel_rfl) (by kernel_rfl) (by kernel_rfl) (fun _ _ _ h => h) (Or.inl ⟨by rfl, fun w' _ => by go_simp⟩) hS ?_
    try simp only [Act.put, List.setIfInBounds_toArray, List.set_cons_zero, List.set_cons_succ]
    refine takeH (i := 9) (d := some 54) (v := .agg #[encS P, .bool false, encS x]) rfl rfl (by kernel_rfl) (by kernel_rfl) (by kernel_rfl) (fun _ _ _ h => h) (Or.inl ⟨by rfl, fun w' _ => by go_simp⟩) hS ?_
    try simp only [Act.put, List.setIfInBounds_toArray, List.set_cons_zero, List.set_cons_succ]
    refine takeH (i := 11) (d := some 56) (v := .slice A t.length c) rfl rfl (by kernel_rfl) (by kernel_rfl) (by kernel_rfl) (fun _ _ _ h => h) (Or.inl ⟨by rfl, fun w' hS' => by have s0 := hS' _ (.head _); dsimp only at s0; go_simp⟩) hS ?_
    try simp only [Act.put, List.setIfInBounds_toArray, List.set_cons_zero, List.set_cons_succ]
    refine takeH (i := 12) (d := some 57) (v := .int .i64 (wh : Int)) rfl rfl (by kernel_rfl) (by kernel_rfl) (by kernel_rfl) (fun _ _ _ h => h) (Or.inl ⟨by rfl, fun w' _ => by go_simp⟩) hS ?_
    try simp only [Act.put, List.setIfInBounds_toArray, List.set_cons_zero, List.set_cons_succ]
    refine takeH (i := 13) (d := some 58) (v := .slice D (t.length - wh) (c - wh)) rfl rfl (by kernel_rfl) (by kernel_rfl) (by kernel_rfl) (fun _ _ _ h => h) (Or.inl ⟨by rfl, fun w' _ => by go_simp⟩) hS ?_
    try simp only [Act.put, List.setIfInBounds_toArray, List.set_cons_zero, List.set_cons_succ]
    clear hD
    refine wpAnyH_ready (rs := [10]) (by kernel_rfl) (by simp) (AllReadyH.cons rfl (fun K hK => ?_) AllReadyH.nil)
    go_simp
    refine hK.out _ _ (hS.below ((Below.refl _ _).alloc (Nat.le_refl _) _)) (fun _ => ?_)
    clear hK K
    try simp only [Act.put, List.setIfInBounds_toArray, List.set_cons_zero, List.set_cons_succ]
    refine wpAnyH_ready (rs := [14]) (by kernel_rfl) (by simp) (AllReadyH.cons rfl (fun K hK => ?_) AllReadyH.nil)
    go_simp
    refine hK.out _ _ ((hS.below ((Below.refl _ _).alloc (Nat.le_refl _) (.cells #[encS P, .bool false, encS x] 53))).below ((Below.refl _ _).alloc (Nat.le_refl _) _)) (fun _ => ?_)
    clear hK K
    try simp only [Act.put, List.setIfInBounds_toArray, List.set_cons_zero, List.set_cons_succ]
    refine wpAnyH_ready (rs := [15]) (by kernel_rfl) (by simp) (AllReadyH.cons rfl (fun K hK => ?_) AllReadyH.nil)
    go_simp
    go_at_call 49
    refine hJ.mono ?_
    rintro e w9 ⟨a, c9, rfl, hO9, hb9⟩
    have hS9 := (show Cells _ w5 from hS).below hb9
    have k4 := heap_below' g5 hb9
    have e4 := cell_of_one k4; have f4 := free_of_one k4
    go_wp2_with fail
    refine hK.out _ _ hS9 (fun _ => ?_)
    clear hK K
    try simp only [Act.put, List.setIfInBounds_toArray, List.set_cons_zero, List.set_cons_succ]
    refine wpAnyH_ready (rs := [16]) (by kernel_rfl) (by simp) (AllReadyH.cons rfl (fun K hK => ?_) AllReadyH.nil)
    go_simp
    refine hK.out _ _ (hS9.set hfar _) (fun _ => ?_)
    clear hK K
    try simp only [Act.put, List.setIfInBounds_toArray, List.set_cons_zero, List.set_cons_succ]
    refine wpAnyH_done (by kernel_rfl) ?_ _
    have HO := hid (show AtPost (ClosR N ab w0 (Z, 0)) (.returned (.int .i64 0)) (w9.setCell ⟨ab, 0, none⟩ (.slice a Z.length c9)) from ⟨0, rfl, rfl, a, c9, one_setCell k4, own_down (own_turn hO9 (fun j hj _ => Below.heap_setCell _ _ _ _ (hfar2 j hj))) (Nat.le_trans hN1 hb5.size), (hB1.trans ((hb5.mono hN1).trans (hb9.mono (Nat.le_trans hN1 hb5.size)))).setCell hN _⟩)
    clear hS hS9 hJ hO9 hb9 k4 e4 f4 hfar2
    go_wp2
    go_ret
    show AtPost (ClosR N ab w0 (writtenQ t P (x))) _ _
    rw [HQ.out]
    exact HO.out
  · obtain ⟨g, o, hA, -, -, -, c2⟩ := hT1 (whereN t P) hw
    have HA := hid hA
    have hnl := (okT_x hok (List.getElem_mem hw))
    generalize hnx : t[whereN t P].x = nx at *
    have HNX := hid hnx
    rw [ho] at HQ HFR HWP cK hko ⊢
    rw [hK1] at HRH HFR cR x2 hW1 hsp ⊢
    have hbe : behindN t P = whereN t P + 1 := by unfold behindN; rw [hK1]; rfl
    rw [hbe] at HWP hjN HBL
    have HW2 := hid hw
    clear hK hK1 hf ho hbe hT hT1 h1 h2 h3 h4 hk hkl hA hnx
    go_enter Try.func47, Try.ntmps47
    go_wp2_with fail
    go_quiet (fail)
    go_wp2_with fail
    have hA := HA.out
    go_quiet (fail)
    clear hA c2
    go_wp2_with (go_at_fn g0; refine (cK _).mono ?_; rintro e w2 ⟨rfl, rfl⟩)
    refine (cR (((k nx).length : Int) + (x.length : Int) - (nx.length : Int)) _ (below_drewN (Below.refl _ _) _) (by omega)).mono ?_
    rintro e w5 ⟨rfl, hb5'⟩
    have hb5 : Below W1.heap.size W1 w5 := (below_drewN (Below.refl _ W1) _).trans hb5'
    have HR := hid (HRH.out (((k nx).length : Int) + (x.length : Int) - (nx.length : Int)))
    have g5 := heap_below' g4 hb5
    have hB5 := hB1.trans (hb5.mono hN1)
    by_cases hroom : roomL t P = 0
    rotate_left
    · have HR2 : Hid (roomR t P 1 (((k nx).length : Int) + (x.length : Int) - (nx.length : Int)) = roomL t P) := hid (by rw [HR.out, if_pos hroom])
      have HQ2 : Hid (writtenQ t P (k nx ++ x) = ([], roomL t P)) := hid (by rw [HQ.out, if_pos hroom])
      have q1 : (roomL t P == 0) = false := by simpa using hroom
      have q2 : (roomL t P != 0) = true := by simpa using hroom
      rw [HR2.out]
      have HF := hid (And.intro g5 hB5)
      generalize roomL t P = RL at *
      clear HR HR2 HQ HRH cR cK hjN hb5 hb5' g5 hB5 g1 g2 g3 g4 y1 y2 y3 x0 x1 x2 hroom hsp hok hz HFR HWP HBL
      go_wp2
      go_ret
      exact closR_nil HQ2.out HF.out.1 HF.out.2
    have HR1 : Hid (roomR t P 1 (((k nx).length : Int) + (x.length : Int) - (nx.length : Int)) = if 65536 < (sumX t : Int) + (((k nx).length : Int) + (x.length : Int) - (nx.length : Int)) then 17 else 0) := hid (by rw [HR.out, if_neg (by simpa using hroom)]; simp)
    have HQ1 : Hid (writtenQ t P (k nx ++ x) = fitsQ (withL t ⟨P, false, k nx ++ x⟩)) := hid (by rw [HQ.out, if_neg (by simpa using hroom)])
    have hiff : (65536 < (sumX t : Int) + (((k nx).length : Int) + (x.length : Int) - (nx.length : Int))) ↔ ¬ ((withL t ⟨P, false, k nx ++ x⟩).length ≤ 256 ∧ sumX (withL t ⟨P, false, k nx ++ x⟩) ≤ 65536) := by
      have := HFR.out
      rw [List.length_append, Int.natCast_add] at this
      simpa using this
    by_cases hfull : 65536 < (sumX t : Int) + (((k nx).length : Int) + (x.length : Int) - (nx.length : Int))
    · have HR2 : Hid (roomR t P 1 (((k nx).length : Int) + (x.length : Int) - (nx.length : Int)) = 17) := hid (by rw [HR1.out, if_pos hfull])
      have HQ2 : Hid (writtenQ t P (k nx ++ x) = ([], 17)) := hid (by
        rw [HQ1.out]
        exact if_neg (hiff.1 hfull))
      rw [HR2.out]
      have HF := hid (And.intro g5 hB5)
      clear HR HR1 HR2 HQ HQ1 HRH cR cK hjN hb5 hb5' g5 hB5 g1 g2 g3 g4 y1 y2 y3 x0 x1 x2 hroom hsp hok hz HFR HWP HBL hfull hiff
      go_wp2
      go_ret
      exact closR_nil HQ2.out HF.out.1 HF.out.2
    have HR2 : Hid (roomR t P 1 (((k nx).length : Int) + (x.length : Int) - (nx.length : Int)) = 0) := hid (by rw [HR1.out, if_neg hfull])
    have hfit := Classical.not_not.1 (fun h => hfull (hiff.2 h))
    rw [HR2.out]
    have hwz : SizeT (withL t ⟨P, false, k nx ++ x⟩) := fun n hn => by
      rcases withL_mem hn with rfl | h
      · exact ⟨hPl, by show (k nx ++ x).length ≤ _; simp; omega⟩
      · exact hz n h
    have HQ := hid (show writtenQ t P (k nx ++ x) = (withL t ⟨P, false, k nx ++ x⟩, 0) by rw [HQ1.out]; exact if_pos hfit)
    have hlen := hfit.1
    rw [HWP.out] at HQ hlen hwz
    obtain ⟨hj1, hj3⟩ := hjN w5 hb5
    have hJ := joined3 A _ c (c - (whereN t P + 1)) _ _ ⟨P, false, k nx ++ x⟩ w5 hj1 hj3 (by omega) hwz
    obtain ⟨Z, hZ⟩ : ∃ Z, t.take (whereN t P) ++ (⟨P, false, k nx ++ x⟩ :: t.drop (whereN t P + 1)) = Z := ⟨_, rfl⟩
    rw [hZ, List.length_take, Nat.min_eq_left hwl, List.length_drop] at hJ
    rw [hZ] at HQ
    have hbl := HBL.out
    have hcw : whereN t P ≤ c := by omega
    generalize whereN t P = wh at *
    obtain ⟨D, hD⟩ : ∃ D, (if c = wh + 1 then A else A.map (·.add ((wh + 1) * 3))) = D := ⟨_, rfl⟩
    rw [hD] at hJ
    have hS : Cells [(⟨tb, 0, none⟩, .slice A t.length c), (⟨W.heap.size, 1, none⟩, .int .i64 (wh : Int)), (⟨W.heap.size, 0, none⟩, encS P), (⟨db, 0, none⟩, encS x)] w5.drew := fun z hz => by
      rcases List.mem_cons.1 hz with rfl | hz
      · exact (show w5.cell? _ = _ from cell_below hb5 y1)
      rcases List.mem_cons.1 hz with rfl | hz
      · exact (show w5.cell? _ = _ from cell_below hb5 x1)
      rcases List.mem_cons.1 hz with rfl | hz
      · exact (show w5.cell? _ = _ from cell_below hb5 x0)
      rcases List.mem_cons.1 hz with rfl | hz
      · exact (show w5.cell? _ = _ from cell_below hb5 y3)
      · cases hz
    have hfar : ∀ q ∈ [((⟨tb, 0, none⟩ : Addr), Value.slice A t.length c), (⟨W.heap.size, 1, none⟩, .int .i64 (wh : Int)), (⟨W.heap.size, 0, none⟩, encS P), (⟨db, 0, none⟩, encS x)], q.1.block ≠ ab := fun q hq => by
      rcases List.mem_cons.1 hq with rfl | hq
      · exact hne.1
      rcases List.mem_cons.1 hq with rfl | hq
      · exact hsbne
      rcases List.mem_cons.1 hq with rfl | hq
      · exact hsbne
      rcases List.mem_cons.1 hq with rfl | hq
      · exact hne.2
      · cases hq
    have hlt5 := lt_of_block g5
    have hfar2 : ∀ j, w5.heap.size ≤ j → j ≠ ab := fun j hj => by omega
    clear HR HR1 HR2 HQ1 HRH cR cK hjN hb5' hB5 g1 g2 g3 g4 y1 y2 y3 x0 x1 x2 hroom hsp hok hz HFR HWP HBL hfull hiff hZ hj1 hj3 hwz hlen hfit
    have hadd : (⟨(k nx).toArray⟩ : ByteArray) ++ ⟨x.toArray⟩ = ⟨(k nx ++ x).toArray⟩ := bytes_app _ _
    have hxm : (k nx).length + x.length ≤ 9223372036854775807 := by omega
    have hb1 : (wh : Int) + 1 ≤ (t.length : Int) := by omega
    have hb0 : 0 ≤ (wh : Int) + 1 := by omega
    have hbn : ((wh : Int) + 1).toNat = wh + 1 := by omega
    have hwi : IntKind.i64.wrap ((wh : Int) + 1) = (wh : Int) + 1 := IntWalk.i64_in _ (by omega)
    go_wp2_with fail
    refine wp_region_held_drew (S := Cells [(⟨tb, 0, none⟩, .slice A t.length c), (⟨W.heap.size, 1, none⟩, .int .i64 (wh : Int)), (⟨W.heap.size, 0, none⟩, encS P), (⟨db, 0, none⟩, encS x)]) (by kernel_rfl) hS (fun _ => ?_)
    refine takeH (i := 0) (d := some 45) (v := .slice A t.length c) rfl rfl (by kernel_rfl) (by kernel_rfl) (by kernel_rfl) (fun _ _ _ h => h) (Or.inl ⟨by rfl, fun w' hS' => by have s0 := hS' _ (.head _); dsimp only at s0; go_simp⟩) hS ?_
    try simp only [Act.put, List.setIfInBounds_toArray, List.set_cons_zero, List.set_cons_succ]
    refine takeH (i := 1) (d := some 46) (v := .pointer (some ⟨W.heap.size, 1, none⟩)) rfl rfl (by kernel_rfl) (by kernel_rfl) (by kernel_rfl) (fun _ _ _ h => h) (Or.inl ⟨by rfl, fun w' _ => by go_simp⟩) hS ?_
    try simp only [Act.put, List.setIfInBounds_toArray, List.set_cons_zero, List.set_cons_succ]
    refine takeH (i := 2) (d := some 47) (v := .int .i64 (wh : Int)) rfl rfl (by kernel_rfl) (by kernel_rfl) (by kernel_rfl) (fun _ _ _ h => h) (Or.inl ⟨by rfl, fun w' hS' => by have s1 := hS' _ (.tail _ (.head _)); dsimp only at s1; go_simp⟩) hS ?_
    try simp only [Act.put, List.setIfInBounds_toArray, List.set_cons_zero, List.set_cons_succ]
    refine takeH (i := 3) (d := some 48) (v := .slice A wh c) rfl rfl (by kernel_rfl) (by kernel_rfl) (by kernel_rfl) (fun _ _ _ h => h) (Or.inl ⟨by rfl, fun w' _ => by go_simp⟩) hS ?_
    try simp only [Act.put, List.setIfInBounds_toArray, List.set_cons_zero, List.set_cons_succ]
    refine takeH (i := 4) (d := some 49) (v := .pointer (some ⟨W.heap.size, 0, none⟩)) rfl rfl (by kernel_rfl) (by kernel_rfl) (by kernel_rfl) (fun _ _ _ h => h) (Or.inl ⟨by rfl, fun w' _ => by go_simp⟩) hS ?_
    try simp only [Act.put, List.setIfInBounds_toArray, List.set_cons_zero, List.set_cons_succ]
    refine takeH (i := 5) (d := some 50) (v := encS P) rfl rfl (by kernel_rfl) (by kernel_rfl) (by kernel_rfl) (fun _ _ _ h => h) (Or.inl ⟨by rfl, fun w' hS' => by have s2 := hS' _ (.tail _ (.tail _ (.head _))); dsimp only at s2; go_simp⟩) hS ?_
    try simp only [Act.put, List.setIfInBounds_toArray, List.set_cons_zero, List.set_cons_succ]
    refine takeH (i := 6) (d := some 51) (v := encS (k nx)) rfl rfl (by kernel_rfl) (by kernel_rfl) (by kernel_rfl) (fun _ _ _ h => h) (Or.inl ⟨by rfl, fun w' _ => by go_simp⟩) hS ?_
    try simp only [Act.put, List.setIfInBounds_toArray, List.set_cons_zero, List.set_cons_succ]
    refine takeH (i := 7) (d := some 52) (v := encS x) rfl rfl (by kernel_rfl) (by kernel_rfl) (by kernel_rfl) (fun _ _ _ h => h) (Or.inl ⟨by rfl, fun w' hS' => by have s3 := hS' _ (.tail _ (.tail _ (.tail _ (.head _)))); dsimp only at s3; go_simp⟩) hS ?_
    try simp only [Act.put, List.setIfInBounds_toArray, List.set_cons_zero, List.set_cons_succ]
    refine takeH (i := 8) (d := some 53) (v := encS (k nx ++ x)) rfl rfl (by kernel_rfl) (by kernel_rfl) (by kernel_rfl) (fun _ _ _ h => h) (Or.inl ⟨by rfl, fun w' _ => by go_simp⟩) hS ?_
    try simp only [Act.put, List.setIfInBounds_toArray, List.set_cons_zero, List.set_cons_succ]
    refine takeH (i := 9) (d := some 54) (v := .agg #[encS P, .bool false, encS (k nx ++ x)]) rfl rfl (by kernel_rfl) (by kernel_rfl) (by kernel_rfl) (fun _ _ _ h => h) (Or.inl ⟨by rfl, fun w' _ => by go_simp⟩) hS ?_
    try simp only [Act.put, List.setIfInBounds_toArray, List.set_cons_zero, List.set_cons_succ]
    refine takeH (i := 11) (d := some 56) (v := .slice A t.length c) rfl rfl (by kernel_rfl) (by kernel_rfl) (by kernel_rfl) (fun _ _ _ h => h) (Or.inl ⟨by rfl, fun w' hS' => by have s0 := hS' _ (.head _); dsimp only at s0; go_simp⟩) hS ?_
    try simp only [Act.put, List.setIfInBounds_toArray, List.set_cons_zero, List.set_cons_succ]
    refine takeH (i := 12) (d := some 57) (v := .int .i64 ((wh : Int) + 1)) rfl rfl (by kernel_rfl) (by kernel_rfl) (by kernel_rfl) (fun _ _ _ h => h) (Or.inl ⟨by rfl, fun w' _ => by go_simp⟩) hS ?_
    try simp only [Act.put, List.setIfInBounds_toArray, List.set_cons_zero, List.set_cons_succ]
    refine takeH (i := 13) (d := some 58) (v := .slice D (t.length - (wh + 1)) (c - (wh + 1))) rfl rfl (by kernel_rfl) (by kernel_rfl) (by kernel_rfl) (fun _ _ _ h => h) (Or.inl ⟨by rfl, fun w' _ => by go_simp⟩) hS ?_
    try simp only [Act.put, List.setIfInBounds_toArray, List.set_cons_zero, List.set_cons_succ]
    clear hD
    refine wpAnyH_ready (rs := [10]) (by kernel_rfl) (by simp) (AllReadyH.cons rfl (fun K hK => ?_) AllReadyH.nil)
    go_simp
    refine hK.out _ _ (hS.below ((Below.refl _ _).alloc (Nat.le_refl _) _)) (fun _ => ?_)
    clear hK K
    try simp only [Act.put, List.setIfInBounds_toArray, List.set_cons_zero, List.set_cons_succ]
    refine wpAnyH_ready (rs := [14]) (by kernel_rfl) (by simp) (AllReadyH.cons rfl (fun K hK => ?_) AllReadyH.nil)
    go_simp
    refine hK.out _ _ ((hS.below ((Below.refl _ _).alloc (Nat.le_refl _) (.cells #[encS P, .bool false, encS (k nx ++ x)] 53))).below ((Below.refl _ _).alloc (Nat.le_refl _) _)) (fun _ => ?_)
    clear hK K
    try simp only [Act.put, List.setIfInBounds_toArray, List.set_cons_zero, List.set_cons_succ]
    refine wpAnyH_ready (rs := [15]) (by kernel_rfl) (by simp) (AllReadyH.cons rfl (fun K hK => ?_) AllReadyH.nil)
    go_simp
    go_at_call 49
    refine hJ.mono ?_
    rintro e w9 ⟨a, c9, rfl, hO9, hb9⟩
    have hS9 := (show Cells _ w5 from hS).below hb9
    have k4 := heap_below' g5 hb9
    have e4 := cell_of_one k4; have f4 := free_of_one k4
    go_wp2_with fail
    refine hK.out _ _ hS9 (fun _ => ?_)
    clear hK K
    try simp only [Act.put, List.setIfInBounds_toArray, List.set_cons_zero, List.set_cons_succ]
    refine wpAnyH_ready (rs := [16]) (by kernel_rfl) (by simp) (AllReadyH.cons rfl (fun K hK => ?_) AllReadyH.nil)
    go_simp
    refine hK.out _ _ (hS9.set hfar _) (fun _ => ?_)
    clear hK K
    try simp only [Act.put, List.setIfInBounds_toArray, List.set_cons_zero, List.set_cons_succ]
    refine wpAnyH_done (by kernel_rfl) ?_ _
    have HO := hid (show AtPost (ClosR N ab w0 (Z, 0)) (.returned (.int .i64 0)) (w9.setCell ⟨ab, 0, none⟩ (.slice a Z.length c9)) from ⟨0, rfl, rfl, a, c9, one_setCell k4, own_down (own_turn hO9 (fun j hj _ => Below.heap_setCell _ _ _ _ (hfar2 j hj))) (Nat.le_trans hN1 hb5.size), (hB1.trans ((hb5.mono hN1).trans (hb9.mono (Nat.le_trans hN1 hb5.size)))).setCell hN _⟩)
    clear hS hS9 hJ hO9 hb9 k4 e4 f4 hfar2
    go_wp2
    go_ret
    show AtPost (ClosR N ab w0 (writtenQ t P (k nx ++ x))) _ _
    rw [HQ.out]
    exact HO.out
end Go.Proofs.Ytngllipfnbmpeaa
