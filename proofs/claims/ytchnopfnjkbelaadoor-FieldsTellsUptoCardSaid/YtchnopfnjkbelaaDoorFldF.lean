/- cowrielaw08's Of: pieces for the program, in memory of their own. Conditions: sizes. -/
import Derived.Test.YtchnopfnjkbelaaDoorFldD
import Derived.Test.YtchnopfnjkbelaaDoorDrawn
namespace Go.Proofs.YtchnopfnjkbelaaDoor
open Go.RowKit
open Go.Lib (hid)

theorem info_pc : (Tryd.prog.info? 45).map (fun i => (i.zero, i.size, i.bytes)) = some (some (.agg #[.slice none 0 0, .bool false, .bool false, .bool false]), 4, 32) := by kernel_rfl
/-- These values are those pieces', their octets between N and M. -/
def AtPs (w : World) (N M : Nat) (xs : List Value) (l : List Pc) : Prop := ∀ k (h : k < l.length), ∃ B cap, xs[k * 4]? = some (.slice B l[k].ch.length cap) ∧ xs[k * 4 + 1]? = some (.bool l[k].split) ∧ xs[k * 4 + 2]? = some (.bool l[k].kept) ∧ xs[k * 4 + 3]? = some (.bool l[k].cut) ∧ l[k].ch.length ≤ cap ∧ OcsP w (PF w N M) B l[k].ch
theorem AtPs.below {w w' : World} {N M : Nat} {xs : List Value} {l : List Pc} (h : AtPs w N M xs l) (hb : Below w.heap.size w w') : AtPs w' N M xs l := fun k hk => by
  obtain ⟨B, cap, e0, e1, e2, e3, hc, hO⟩ := h k hk
  exact ⟨B, cap, e0, e1, e2, e3, hc, hO.frame fun j hj ⟨p1, p2, cs, p3⟩ => ⟨⟨p1, p2, cs, (hb.block j hj).trans p3⟩, hb.block j hj⟩⟩
/-- Pieces of the call's own: the row from N on, their octets between N and M. -/
def OwnPs (w : World) (N M : Nat) (a : Option Addr) (c : Nat) (l : List Pc) : Prop :=
  ∃ xs : List Value, xs.length = l.length * 4 ∧ w.ownsRow N 45 4 (.slice a l.length c) l.length xs ∧ AtPs w N M xs l
theorem ownPs_nil (w : World) (N M : Nat) : OwnPs w N M none 0 [] := ⟨[], rfl, World.ownsRow_nil _ _ _ _, fun _ h => absurd h (Nat.not_lt_zero _)⟩
theorem OwnPs.pcs {w : World} {N M : Nat} {a : Option Addr} {c : Nat} {l : List Pc} (h : OwnPs w N M a c l) : PcsP w (fun g => N ≤ g) (PF w N M) a l := fun k hk => by
  obtain ⟨xs, h1, h2, h3⟩ := h
  obtain ⟨B, cap, e0, e1, e2, e3, hc, hO⟩ := h3 k hk
  rcases h2.2 with ⟨hv, h0⟩ | ⟨g, cap', cur, hv, hN, hcur, _⟩
  · omega
  · cases hv
    have d : ∀ j u, xs[j]? = some u → w.cell? ⟨g, 0 + j, none⟩ = some u := fun j u hu => by
      have := World.ownsRow.cells (g := g) h2 rfl j u hu
      rwa [add_at] at this
    exact ⟨g, 0, B, cap, rfl, hN, d _ _ e0, by rw [Nat.add_assoc]; exact d _ _ e1, by rw [Nat.add_assoc]; exact d _ _ e2, by rw [Nat.add_assoc]; exact d _ _ e3, hc, hO⟩
/-- A piece more. -/
theorem OwnPs.next {w w' : World} {N M M' g c : Nat} {a : Option Addr} {c0 : Nat} {l : List Pc} {xs : List Value} {y : Pc} {B : Option Addr} {cap : Nat} (h1 : xs.length = l.length * 4) (h2 : w.ownsRow N 45 4 (.slice a l.length c0) l.length xs)
    (h3 : AtPs w N M xs l) (hM : M ≤ M') (hcap : y.ch.length ≤ cap)
    (hg : w.grownBy w' (Value.slice a l.length c0).ownBlock) (hO : OcsP w (PF w N M') B y.ch)
    (hr : w'.ownsRow N 45 4 (.slice (some ⟨g, 0, none⟩) (l.length + 1) c) (l.length + 1) (xs ++ [.slice B y.ch.length cap, .bool y.split, .bool y.kept, .bool y.cut])) : OwnPs w' N M' (some ⟨g, 0, none⟩) c (l ++ [y]) := by
  have hkeep : ∀ j : Nat, (∃ cs, w.heap[j]? = some (.cells cs 50 (0, 0))) → w'.heap[j]? = w.heap[j]? := fun j ⟨cs, hc⟩ => hg.block j (lt_of_block hc) fun e => by
    obtain ⟨-, cs', hc'⟩ := own_tag h2 j e.symm
    rw [hc] at hc'
    simp at hc'
  refine ⟨xs ++ [.slice B y.ch.length cap, .bool y.split, .bool y.kept, .bool y.cut], by rw [List.length_append, List.length_append, h1]; simp; omega, by rw [List.length_append]; exact hr, fun k hk => ?_⟩
  by_cases hlt : k < l.length
  · obtain ⟨B', cap', e0, e1, e2, e3, hc, hO'⟩ := h3 k hlt
    rw [List.getElem_append_left hlt]
    refine ⟨B', cap', by rw [List.getElem?_append_left (by omega)]; exact e0, by rw [List.getElem?_append_left (by omega)]; exact e1, by rw [List.getElem?_append_left (by omega)]; exact e2, by rw [List.getElem?_append_left (by omega)]; exact e3, hc, ?_⟩
    refine hO'.frame fun g' _ hp => ?_
    obtain ⟨p1, p2, p3⟩ := hp
    have hs := hkeep g' p3
    obtain ⟨cs, p3⟩ := p3
    exact ⟨⟨p1, by omega, cs, hs.trans p3⟩, hs⟩
  · have hk' : k = l.length := by simp at hk; omega
    subst hk'
    have e : (l ++ [y])[l.length]'hk = y := by simp
    rw [e]
    have q : ∀ j, (xs ++ [.slice B y.ch.length cap, .bool y.split, .bool y.kept, .bool y.cut])[l.length * 4 + j]? = ([.slice B y.ch.length cap, .bool y.split, .bool y.kept, .bool y.cut] : List Value)[j]? := fun j => by
      rw [List.getElem?_append_right (by omega), h1]
      congr 1
      omega
    refine ⟨B, cap, q 0, q 1, q 2, q 3, hcap, hO.frame fun g' _ hp => ?_⟩
    obtain ⟨p1, p2, p3⟩ := hp
    have hs := hkeep g' p3
    obtain ⟨cs, p3⟩ := p3
    exact ⟨⟨p1, p2, cs, hs.trans p3⟩, hs⟩

set_option linter.unusedSimpArgs false in
set_option maxRecDepth 100000 in
set_option maxHeartbeats 8000000 in
theorem of_any (A : Option Addr) (c : Nat) (l : List Pc) (w : World) (hP : PcsP w (fun _ => True) (fun _ => True) A l) (hl : sizePs l ≤ 1099511627776) :
    Calls Tryd.prog 6 #[.slice A l.length c] w fun e w' => ∃ a c' M, e = .returned (.slice a l.length c') ∧ OwnPs w' w.heap.size M a c' l ∧ l.length ≤ c' ∧ Below w.heap.size w w' := by
  obtain ⟨i0, hi, hz0, hz1, hz2⟩ := info_parts info_pc
  have hll := sizePs_len l
  go_enter Tryd.func6, Tryd.ntmps6
  go_wp2
  go_loopw [3, 4] (fun v vi wr => ∃ (k M : Nat) (a : Option Addr) (c' : Nat) (ys : List Pc), k ≤ l.length ∧ vi = .int .i64 k ∧ v = .slice a ys.length c' ∧ Hid (ys = l.take k) ∧ OwnPs wr w.heap.size M a c' ys ∧ M ≤ wr.heap.size ∧ Below w.heap.size w wr) (fun _ vi _ => l.length - (intOf vi).toNat)
  case atStart => exact ⟨0, w.heap.size, none, 0, [], Nat.zero_le _, rfl, rfl, hid rfl, ownPs_nil _ _ _, Nat.le_refl _, Below.refl _ _⟩
  case round =>
    obtain ⟨k, M, a, c', ys, hk, rfl, rfl, HY, hO, hM, hB⟩ := hrel
    have hyl : ys.length ≤ k := by rw [HY.out]; exact List.length_take_le _ _
    by_cases hlt : k < l.length
    · obtain ⟨g, o, B, cc, rfl, -, c0, c1, c2, c3, hcc, hOc⟩ := hP k hlt
      have HS : Hid (ys ++ [l[k]] = l.take (k + 1)) := hid (by rw [HY.out, ← List.take_succ_eq_append_getElem hlt])
      have hsz : l[k].ch.length ≤ 1099511627776 := by have := sizePs_at l k hlt; omega
      have hkm : k < 1099511627776 := by omega
      generalize l[k] = p at *
      obtain ⟨ch, sp, kp, ct⟩ := p
      simp only at c0 c1 c2 c3 hcc hOc hsz HS
      have cC := copyCharsO B cc ch wr.drew (fun _ => True) (by omega) ((hOc.below hB).frame fun _ _ _ => ⟨trivial, rfl⟩)
      have hSb : ∀ W, Below w.heap.size w W → Cells [(⟨g, o + k * 4, none⟩, .slice B ch.length cc), (⟨g, o + k * 4 + 1, none⟩, .bool sp), (⟨g, o + k * 4 + 2, none⟩, .bool kp), (⟨g, o + k * 4 + 3, none⟩, .bool ct)] W := fun W hb q hq => by
        rcases List.mem_cons.1 hq with rfl | hq
        · exact cell_below hb c0
        rcases List.mem_cons.1 hq with rfl | hq
        · exact cell_below hb c1
        rcases List.mem_cons.1 hq with rfl | hq
        · exact cell_below hb c2
        rcases List.mem_cons.1 hq with rfl | hq
        · exact cell_below hb c3
        · cases hq
      have hS := hSb wr.drew (hB.trans ((Below.refl _ _).drew.mono hB.size))
      obtain ⟨xs, hx1, hx2, hx3⟩ := hO
      have hs0 := hB.size
      clear c0 c1 c2 c3 hOc hP HY hll hl
      go_wp2_with fail
      refine wp_region_held_drew (S := Cells [(⟨g, o + k * 4, none⟩, .slice B ch.length cc), (⟨g, o + k * 4 + 1, none⟩, .bool sp), (⟨g, o + k * 4 + 2, none⟩, .bool kp), (⟨g, o + k * 4 + 3, none⟩, .bool ct)]) (by kernel_rfl) hS (fun _ => ?_)
      refine takeH (i := 0) (d := some 11) (v := .slice a ys.length c') rfl rfl (by kernel_rfl) (by kernel_rfl) (by kernel_rfl) (fun _ _ _ h => h) (Or.inl ⟨by rfl, fun w' _ => by go_simp⟩) hS ?_
      try simp only [Act.put, List.setIfInBounds_toArray, List.set_cons_zero, List.set_cons_succ]
      refine takeH (i := 1) (d := some 12) (v := .slice (some ⟨g, o, none⟩) l.length c) rfl rfl (by kernel_rfl) (by kernel_rfl) (by kernel_rfl) (fun _ _ _ h => h) (Or.inl ⟨by rfl, fun w' _ => by go_simp⟩) hS ?_
      try simp only [Act.put, List.setIfInBounds_toArray, List.set_cons_zero, List.set_cons_succ]
      refine takeH (i := 2) (d := some 13) (v := .int .i64 k) rfl rfl (by kernel_rfl) (by kernel_rfl) (by kernel_rfl) (fun _ _ _ h => h) (Or.inl ⟨by rfl, fun w' _ => by go_simp⟩) hS ?_
      try simp only [Act.put, List.setIfInBounds_toArray, List.set_cons_zero, List.set_cons_succ]
      refine takeH (i := 3) (d := some 14) (v := .pointer (some ⟨g, o + k * 4, none⟩)) rfl rfl (by kernel_rfl) (by kernel_rfl) (by kernel_rfl) (fun _ _ _ h => h) (Or.inl ⟨by rfl, fun w' _ => by go_simp⟩) hS ?_
      try simp only [Act.put, List.setIfInBounds_toArray, List.set_cons_zero, List.set_cons_succ]
      refine takeH (i := 4) (d := some 15) (v := .pointer (some ⟨g, o + k * 4, none⟩)) rfl rfl (by kernel_rfl) (by kernel_rfl) (by kernel_rfl) (fun _ _ _ h => h) (Or.inl ⟨by rfl, fun w' _ => by go_simp⟩) hS ?_
      try simp only [Act.put, List.setIfInBounds_toArray, List.set_cons_zero, List.set_cons_succ]
      refine takeH (i := 5) (d := some 16) (v := .slice B ch.length cc) rfl rfl (by kernel_rfl) (by kernel_rfl) (by kernel_rfl) (fun _ _ _ h => h) (Or.inl ⟨by rfl, fun w' hS' => by have s0 := hS' _ (.head _); dsimp only at s0; go_simp⟩) hS ?_
      try simp only [Act.put, List.setIfInBounds_toArray, List.set_cons_zero, List.set_cons_succ]
      refine takeH (i := 7) (d := some 18) (v := .slice (some ⟨g, o, none⟩) l.length c) rfl rfl (by kernel_rfl) (by kernel_rfl) (by kernel_rfl) (fun _ _ _ h => h) (Or.inl ⟨by rfl, fun w' _ => by go_simp⟩) hS ?_
      try simp only [Act.put, List.setIfInBounds_toArray, List.set_cons_zero, List.set_cons_succ]
      refine takeH (i := 8) (d := some 19) (v := .int .i64 k) rfl rfl (by kernel_rfl) (by kernel_rfl) (by kernel_rfl) (fun _ _ _ h => h) (Or.inl ⟨by rfl, fun w' _ => by go_simp⟩) hS ?_
      try simp only [Act.put, List.setIfInBounds_toArray, List.set_cons_zero, List.set_cons_succ]
      refine takeH (i := 9) (d := some 20) (v := .pointer (some ⟨g, o + k * 4, none⟩)) rfl rfl (by kernel_rfl) (by kernel_rfl) (by kernel_rfl) (fun _ _ _ h => h) (Or.inl ⟨by rfl, fun w' _ => by go_simp⟩) hS ?_
      try simp only [Act.put, List.setIfInBounds_toArray, List.set_cons_zero, List.set_cons_succ]
      refine takeH (i := 10) (d := some 21) (v := .pointer (some ⟨g, o + k * 4 + 1, none⟩)) rfl rfl (by kernel_rfl) (by kernel_rfl) (by kernel_rfl) (fun _ _ _ h => h) (Or.inl ⟨by rfl, fun w' _ => by go_simp⟩) hS ?_
      try simp only [Act.put, List.setIfInBounds_toArray, List.set_cons_zero, List.set_cons_succ]
      refine takeH (i := 11) (d := some 22) (v := .bool sp) rfl rfl (by kernel_rfl) (by kernel_rfl) (by kernel_rfl) (fun _ _ _ h => h) (Or.inl ⟨by rfl, fun w' hS' => by have s1 := hS' _ (.tail _ (.head _)); dsimp only at s1; go_simp⟩) hS ?_
      try simp only [Act.put, List.setIfInBounds_toArray, List.set_cons_zero, List.set_cons_succ]
      refine takeH (i := 12) (d := some 23) (v := .slice (some ⟨g, o, none⟩) l.length c) rfl rfl (by kernel_rfl) (by kernel_rfl) (by kernel_rfl) (fun _ _ _ h => h) (Or.inl ⟨by rfl, fun w' _ => by go_simp⟩) hS ?_
      try simp only [Act.put, List.setIfInBounds_toArray, List.set_cons_zero, List.set_cons_succ]
      refine takeH (i := 13) (d := some 24) (v := .int .i64 k) rfl rfl (by kernel_rfl) (by kernel_rfl) (by kernel_rfl) (fun _ _ _ h => h) (Or.inl ⟨by rfl, fun w' _ => by go_simp⟩) hS ?_
      try simp only [Act.put, List.setIfInBounds_toArray, List.set_cons_zero, List.set_cons_succ]
      refine takeH (i := 14) (d := some 25) (v := .pointer (some ⟨g, o + k * 4, none⟩)) rfl rfl (by kernel_rfl) (by kernel_rfl) (by kernel_rfl) (fun _ _ _ h => h) (Or.inl ⟨by rfl, fun w' _ => by go_simp⟩) hS ?_
      try simp only [Act.put, List.setIfInBounds_toArray, List.set_cons_zero, List.set_cons_succ]
      refine takeH (i := 15) (d := some 26) (v := .pointer (some ⟨g, o + k * 4 + 2, none⟩)) rfl rfl (by kernel_rfl) (by kernel_rfl) (by kernel_rfl) (fun _ _ _ h => h) (Or.inl ⟨by rfl, fun w' _ => by go_simp⟩) hS ?_
      try simp only [Act.put, List.setIfInBounds_toArray, List.set_cons_zero, List.set_cons_succ]
      refine takeH (i := 16) (d := some 27) (v := .bool kp) rfl rfl (by kernel_rfl) (by kernel_rfl) (by kernel_rfl) (fun _ _ _ h => h) (Or.inl ⟨by rfl, fun w' hS' => by have s2 := hS' _ (.tail _ (.tail _ (.head _))); dsimp only at s2; go_simp⟩) hS ?_
      try simp only [Act.put, List.setIfInBounds_toArray, List.set_cons_zero, List.set_cons_succ]
      refine takeH (i := 17) (d := some 28) (v := .slice (some ⟨g, o, none⟩) l.length c) rfl rfl (by kernel_rfl) (by kernel_rfl) (by kernel_rfl) (fun _ _ _ h => h) (Or.inl ⟨by rfl, fun w' _ => by go_simp⟩) hS ?_
      try simp only [Act.put, List.setIfInBounds_toArray, List.set_cons_zero, List.set_cons_succ]
      refine takeH (i := 18) (d := some 29) (v := .int .i64 k) rfl rfl (by kernel_rfl) (by kernel_rfl) (by kernel_rfl) (fun _ _ _ h => h) (Or.inl ⟨by rfl, fun w' _ => by go_simp⟩) hS ?_
      try simp only [Act.put, List.setIfInBounds_toArray, List.set_cons_zero, List.set_cons_succ]
      refine takeH (i := 19) (d := some 30) (v := .pointer (some ⟨g, o + k * 4, none⟩)) rfl rfl (by kernel_rfl) (by kernel_rfl) (by kernel_rfl) (fun _ _ _ h => h) (Or.inl ⟨by rfl, fun w' _ => by go_simp⟩) hS ?_
      try simp only [Act.put, List.setIfInBounds_toArray, List.set_cons_zero, List.set_cons_succ]
      refine takeH (i := 20) (d := some 31) (v := .pointer (some ⟨g, o + k * 4 + 3, none⟩)) rfl rfl (by kernel_rfl) (by kernel_rfl) (by kernel_rfl) (fun _ _ _ h => h) (Or.inl ⟨by rfl, fun w' _ => by go_simp⟩) hS ?_
      try simp only [Act.put, List.setIfInBounds_toArray, List.set_cons_zero, List.set_cons_succ]
      refine takeH (i := 21) (d := some 32) (v := .bool ct) rfl rfl (by kernel_rfl) (by kernel_rfl) (by kernel_rfl) (fun _ _ _ h => h) (Or.inl ⟨by rfl, fun w' hS' => by have s3 := hS' _ (.tail _ (.tail _ (.tail _ (.head _)))); dsimp only at s3; go_simp⟩) hS ?_
      try simp only [Act.put, List.setIfInBounds_toArray, List.set_cons_zero, List.set_cons_succ]
      refine wpAnyH_ready (rs := [6]) (by kernel_rfl) (by simp) (AllReadyH.cons rfl (fun K hK => ?_) AllReadyH.nil)
      go_simp
      go_at_call 21
      refine cC.mono ?_
      rintro e w3 ⟨A', cap, rfl, hC, hb3⟩
      have hB3 : Below w.heap.size w w3 := hB.trans (((Below.refl _ wr).drew.trans hb3).mono hB.size)
      have hS3 := hSb w3 hB3
      have hx23 := own_below (w := wr.drew) hx2 hb3
      have hs3 : wr.heap.size ≤ w3.heap.size := hb3.size
      have hC3 : OcsP (w3.alloc (.cells #[.slice A' ch.length cap, .bool sp, .bool kp, .bool ct] 45)) (PF (w3.alloc (.cells #[.slice A' ch.length cap, .bool sp, .bool kp, .bool ct] 45)) w.heap.size w3.heap.size) A' ch := (OwnO.ocs hC).frame fun j hj ⟨p1, cs, p2⟩ => ⟨⟨by have : wr.drew.heap.size = wr.heap.size := rfl; omega, hj, cs, (Below.heap_alloc w3 _ j hj).trans p2⟩, Below.heap_alloc w3 _ j hj⟩
      have hk3 := hx3.below (((Below.refl _ wr).drew.trans hb3).alloc hs3 (.cells #[.slice A' ch.length cap, .bool sp, .bool kp, .bool ct] 45))
      go_wp2_with fail
      refine hK.out _ _ hS3 (fun _ => ?_)
      clear hK K
      try simp only [Act.put, List.setIfInBounds_toArray, List.set_cons_zero, List.set_cons_succ]
      refine takeH (i := 22) (d := some 33) (v := .agg #[.slice A' ch.length cap, .bool sp, .bool kp, .bool ct]) rfl rfl (by kernel_rfl) (by kernel_rfl) (by kernel_rfl) (fun _ _ _ h => h) (Or.inl ⟨by rfl, fun w' _ => by go_simp⟩) hS3 ?_
      try simp only [Act.put, List.setIfInBounds_toArray, List.set_cons_zero, List.set_cons_succ]
      refine wpAnyH_ready (rs := [23]) (by kernel_rfl) (by simp) (AllReadyH.cons rfl (fun K hK => ?_) AllReadyH.nil)
      go_simp
      refine hK.out _ _ (hSb _ (hB3.alloc hB3.size _)) (fun _ => ?_)
      clear hK K
      try simp only [Act.put, List.setIfInBounds_toArray, List.set_cons_zero, List.set_cons_succ]
      refine wpAnyH_ready (rs := [24]) (by kernel_rfl) (by simp) (AllReadyH.cons rfl (fun K hK => ?_) AllReadyH.nil)
      refine step_append_lies _ (by rfl) _ _ _ (by rfl) w.heap.size 45 i0 _ 4 32 Tryd.underlying25 hi hz0 hz1 hz2 rfl (by omega) (.slice a ys.length c') ys.length xs (by rfl) (hx23.alloc _) ⟨w3.heap.size, 0, none⟩ 1 1 [.slice A' ch.length cap, .bool sp, .bool kp, .bool ct] (by rfl) (by rfl) (World.news_of_block (cs := #[.slice A' ch.length cap, .bool sp, .bool kp, .bool ct]) (t := 45) (fr := (0, 0)) (heap_alloc_new w3 _)) (by simp [Value.oneCell']) (by omega) (by unfold maxLen; omega) (by omega) (by simp; omega) (w3.heap.size + 1) (by simp) ?_
      intro gg cp w4 hown4 hg hat hlt4
      have hs4 : w3.heap.size ≤ w4.heap.size := by have := hg.size; simp at this; omega
      have hB4 : Below w.heap.size w w4 := (hB3.alloc hB3.size _).grown hg (by have := hB3.size; simp; omega) fun k e => (own_tag hx23 k e).1
      refine hK.out _ _ (hSb _ hB4) (fun _ => ?_)
      clear hK K
      try simp only [Act.put, List.setIfInBounds_toArray, List.set_cons_zero, List.set_cons_succ]
      refine wpAnyH_ready (rs := [25]) (by kernel_rfl) (by simp) (AllReadyH.cons rfl (fun K hK => ?_) AllReadyH.nil)
      go_simp
      refine hK.out _ _ (hSb _ hB4) (fun _ => ?_)
      clear hK K
      try simp only [Act.put, List.setIfInBounds_toArray, List.set_cons_zero, List.set_cons_succ]
      refine wpAnyH_done (by kernel_rfl) ?_ _
      have HR := hid (And.intro (OwnPs.next (w := w3.alloc _) (M := M) (M' := w3.heap.size) (y := ⟨ch, sp, kp, ct⟩) hx1 (hx23.alloc _) hk3 (Nat.le_trans hM hs3) (own_capO hC) hg hC3 hown4) (And.intro hs4 hB4))
      clear hown4 hg hat hlt4 hx1 hx2 hx3 hx23 hC hC3 hk3 hB3 hB4 hS hS3 hSb hs4 hb3 hB
      go_wp2
      go_roundw
      case rel => exact ⟨k + 1, w3.heap.size, some ⟨gg, 0, none⟩, cp, ys ++ [⟨ch, sp, kp, ct⟩], by omega, by go_num, by simp, HS, HR.out.1, HR.out.2.1, HR.out.2.2⟩
      case measure => simp [intOf]; omega
    · obtain rfl : k = l.length := by omega
      rw [List.take_length] at HY
      obtain rfl := HY.out
      obtain ⟨xs, hx1, hx2, hx3⟩ := hO
      have hcap := own_capO hx2
      have HR := hid (And.intro (show OwnPs wr w.heap.size M a c' ys from ⟨xs, hx1, hx2, hx3⟩) (And.intro hcap hB))
      clear hx1 hx2 hx3 hcap hB hP
      go_wp2
      go_ret
      exact ⟨a, c', rfl, ⟨M, HR.out.1⟩, HR.out.2.1, HR.out.2.2⟩
end Go.Proofs.YtchnopfnjkbelaaDoor
