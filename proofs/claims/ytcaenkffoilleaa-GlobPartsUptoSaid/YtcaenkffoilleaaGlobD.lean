/- The contract of glob.set. Conditions: a pattern of at most 2^40 octets. -/
import Derived.Test.YtcaenkffoilleaaGlobC
import Derived.RegionTactic
import Derived.BigRegion
import Derived.Deep.RegionLaw
import Derived.Deep.CutRange
import Derived.Deep.AppendLies
namespace Go.Proofs.Ytcaenkffoilleaa
open Go.RowKit
open Go.Lib (hid)

theorem info_span : (Try.prog.info? 59).map (fun i => (i.zero, i.size, i.bytes)) = some (some (.agg #[.int .u8 0, .int .u8 0]), 2, 2) := by kernel_rfl

/-- The variable of a set under way: what stands at block B; its row of spans. -/
def SetVar (N B : Nat) (neg : Bool) (sp : List Sp) (w : World) : Prop :=
  ∃ v, w.heap[B]? = some (.cells #[.bool false, .bool neg, v] 48 (0, 0)) ∧ w.ownsRow N 59 2 v sp.length (spCells sp) ∧ v.ownBlock ≠ some B ∧ N ≤ B

theorem three_setCell {w : World} {b : Nat} {x y v u : Value} {t : TypeId} (h : w.heap[b]? = some (.cells #[x, y, v] t (0, 0))) : (w.setCell ⟨b, 2, none⟩ u).heap[b]? = some (.cells #[x, y, u] t (0, 0)) := by
  have hlt := lt_of_block h
  have h' : w.heap[b] = .cells #[x, y, v] t (0, 0) := by simpa [Array.getElem?_eq_getElem hlt] using h
  show (w.heap.modify b _)[b]? = _
  rw [Array.getElem?_eq_getElem (by simpa using hlt), Array.getElem_modify_self, h']
  rfl

theorem own_ne_var {N B n : Nat} {xs : List Value} {w : World} {v a b c : Value} (hB : w.heap[B]? = some (.cells #[a, b, c] 48 (0, 0))) (ho : w.ownsRow N 59 2 v n xs) : v.ownBlock ≠ some B := by
  intro he
  rcases ho.2 with ⟨rfl, _⟩ | ⟨g, cap, cur, rfl, _, hh, _⟩
  · simp [Value.ownBlock] at he
  · simp only [Value.ownBlock, Option.some.injEq] at he
    subst he
    rw [hB] at hh
    simp at hh

theorem SetVar.stored {N B : Nat} {neg : Bool} {sp : List Sp} {w w1 : World} {v v' : Value} (hbk : w.heap[B]? = some (.cells #[.bool false, .bool neg, v] 48 (0, 0))) (hne : v.ownBlock ≠ some B) (hNB : N ≤ B)
    (hg : w.grownBy w1 v.ownBlock) (ho : w1.ownsRow N 59 2 v' sp.length (spCells sp)) : SetVar N B neg sp (w1.setCell ⟨B, 2, none⟩ v') := by
  have hb : w1.heap[B]? = some (.cells #[.bool false, .bool neg, v] 48 (0, 0)) := (hg.block B (lt_of_block hbk) (fun e => hne e.symm)).trans hbk
  have hn := own_ne_var hb ho
  exact ⟨v', three_setCell hb, ownsRow_setCell_other ho hn v', hn, hNB⟩

theorem spCells_snoc (sp : List Sp) (s : Sp) : spCells (sp ++ [s]) = spCells sp ++ [.int .u8 s.1.toNat, .int .u8 s.2.toNat] := by simp [spCells]

/-- A slice of octets of a pattern: where it lies (below N), what it holds. -/
def ChSl (N : Nat) (w : World) (v : Value) (l : List Ch) : Prop := ∃ g o cap, v = .slice (some ⟨g, o, none⟩) l.length cap ∧ l.length ≤ cap ∧ g < N ∧ CharsAt w (some ⟨g, o, none⟩) l
theorem CharsAt.drop {w : World} {g o : Nat} {l : List Ch} (h : CharsAt w (some ⟨g, o, none⟩) l) (k : Nat) : CharsAt w (some ⟨g, o + k * 2, none⟩) (l.drop k) := fun i hi => by
  rw [List.length_drop] at hi
  obtain ⟨g', o', e, h1, h2⟩ := h (k + i) (by omega)
  cases e
  refine ⟨g, o + k * 2, rfl, ?_, ?_⟩
  · rw [List.getElem_drop, ← h1, show o + k * 2 + i * 2 = o + (k + i) * 2 by omega]
  · rw [List.getElem_drop, ← h2, show o + k * 2 + i * 2 = o + (k + i) * 2 by omega]
theorem ChSl.drop {w : World} {N g o cap : Nat} {l : List Ch} (h : CharsAt w (some ⟨g, o, none⟩) l) (hg : g < N) (hc : l.length ≤ cap) (k n c : Nat) (hn : n = l.length - k) (hcc : c = cap - k) : ChSl N w (.slice (some ⟨g, o + k * 2, none⟩) n c) (l.drop k) :=
  ⟨g, o + k * 2, c, by rw [List.length_drop, hn], by rw [List.length_drop]; omega, hg, h.drop k⟩
theorem ChSl.empty {w : World} {N g o c n : Nat} {l : List Ch} (k : Nat) (hg : g < N) (hk : l.length ≤ k) (hn : n = 0) : ChSl N w (.slice (some ⟨g, o, none⟩) n c) (l.drop k) := by
  have e : l.drop k = [] := List.drop_eq_nil_of_le hk
  rw [e, hn]
  exact ⟨g, o, c, rfl, Nat.zero_le _, hg, fun i hi => by cases hi⟩
theorem CharsAt.first {w : World} {g o : Nat} {l : List Ch} (h : CharsAt w (some ⟨g, o, none⟩) l) (h0 : 0 < l.length) : w.cell? ⟨g, o, none⟩ = some (.int .u8 l[0].1.toNat) ∧ w.cell? ⟨g, o + 1, none⟩ = some (.bool l[0].2) := by
  obtain ⟨g', o', e, h1, h2⟩ := h 0 h0
  cases e
  simpa using ⟨h1, h2⟩
theorem CharsAt.at_ {w : World} {g o : Nat} {l : List Ch} (h : CharsAt w (some ⟨g, o, none⟩) l) (k : Nat) (hk : k < l.length) : w.cell? ⟨g, o + k * 2, none⟩ = some (.int .u8 l[k].1.toNat) ∧ w.cell? ⟨g, o + k * 2 + 1, none⟩ = some (.bool l[k].2) := by
  obtain ⟨g', o', e, h1, h2⟩ := h k hk
  cases e
  exact ⟨h1, h2⟩

theorem setSp_one {r : List Ch} (h0 : 0 < r.length) (h : ¬ 2 < r.length) : setSp r = (r[0].1, r[0].1) :: setSp (r.drop 1) := by
  match r, h0, h with
  | [a], _, _ => rfl
  | [a, b], _, _ => rfl
  | _ :: _ :: _ :: _, _, h => simp at h
theorem setSp_not {r : List Ch} (h : 2 < r.length) (hs : spansB r[1] = false) : setSp r = (r[0].1, r[0].1) :: setSp (r.drop 1) := by
  match r, h, hs with
  | a :: b :: c :: r, _, hs =>
    have hs : spansB b = false := hs
    simp [setSp, hs]
theorem setSp_span {r : List Ch} (h : 2 < r.length) (hs : spansB r[1] = true) : setSp r = (r[0].1, r[2].1) :: setSp (r.drop 3) := by
  match r, h, hs with
  | a :: b :: c :: r, _, hs =>
    have hs : spansB b = true := hs
    simp [setSp, hs]
theorem setL_eq {l : List Ch} (h0 : 0 < l.length) : setL l = ⟨false, othersB l[0], setSp (if othersB l[0] then l.drop 1 else l)⟩ := by
  match l, h0 with
  | a :: r, _ => rfl

theorem three_cell {w : World} {b : Nat} {x y v : Value} {t : TypeId} (h : w.heap[b]? = some (.cells #[x, y, v] t (0, 0))) : w.cell? ⟨b, 2, none⟩ = some v := by simp [World.cell?, h]
theorem three_free {w : World} {b k : Nat} {x y v : Value} {t : TypeId} (h : w.heap[b]? = some (.cells #[x, y, v] t (0, 0))) : w.frozen? ⟨b, k, none⟩ = false := by simp [World.frozen?, h]
theorem var3 {W w3 : World} {B : Nat} {O o : Obj} {v : Value} (h : W.heap[B]? = some o) (hne : v.ownBlock ≠ some B) (hg : ((W.alloc O).drew).grownBy w3 v.ownBlock) : w3.heap[B]? = some o := by
  have hlt := lt_of_block h
  have h1 : ((W.alloc O).drew).heap[B]? = some o := (Below.heap_alloc W O B hlt).trans h
  exact (hg.block B (lt_of_block h1) (fun e => hne e.symm)).trans h1
theorem cell_far_set {w : World} {g o b k : Nat} {v : Value} (h : g ≠ b) : (w.setCell ⟨b, k, none⟩ v).cell? ⟨g, o, none⟩ = w.cell? ⟨g, o, none⟩ := World.cell?_of_block (Below.heap_setCell _ _ _ _ h)
def lenOf : Value → Nat
  | .slice _ n _ => n
  | _ => 0
theorem frozen_below {w w' : World} {a : Addr} (hb : Below w.heap.size w w') (h : a.block < w.heap.size) : w'.frozen? a = w.frozen? a := hb.frozen h

theorem set3_0 {w : World} {b : Nat} {x y v u : Value} {t : TypeId} (h : w.heap[b]? = some (.cells #[x, y, v] t (0, 0))) : (w.setCell ⟨b, 0, none⟩ u).heap[b]? = some (.cells #[u, y, v] t (0, 0)) := by
  have hlt := lt_of_block h
  have h' : w.heap[b] = .cells #[x, y, v] t (0, 0) := by simpa [Array.getElem?_eq_getElem hlt] using h
  show (w.heap.modify b _)[b]? = _
  rw [Array.getElem?_eq_getElem (by simpa using hlt), Array.getElem_modify_self, h']
  rfl
theorem set3_1 {w : World} {b : Nat} {x y v u : Value} {t : TypeId} (h : w.heap[b]? = some (.cells #[x, y, v] t (0, 0))) : (w.setCell ⟨b, 1, none⟩ u).heap[b]? = some (.cells #[x, u, v] t (0, 0)) := by
  have hlt := lt_of_block h
  have h' : w.heap[b] = .cells #[x, y, v] t (0, 0) := by simpa [Array.getElem?_eq_getElem hlt] using h
  show (w.heap.modify b _)[b]? = _
  rw [Array.getElem?_eq_getElem (by simpa using hlt), Array.getElem_modify_self, h']
  rfl
theorem set3 {w : World} {b : Nat} {x y v x' y' v' : Value} {t : TypeId} (h : w.heap[b]? = some (.cells #[x, y, v] t (0, 0))) :
    (((w.setCell ⟨b, 0, none⟩ x').setCell ⟨b, 1, none⟩ y').setCell ⟨b, 2, none⟩ v').heap[b]? = some (.cells #[x', y', v'] t (0, 0)) := three_setCell (set3_1 (set3_0 h))
theorem KeepsSp.setCell {w : World} {b k : Nat} {u : Value} {cs : Array Value} (h : w.heap[b]? = some (.cells cs 48 (0, 0))) : KeepsSp w (w.setCell ⟨b, k, none⟩ u) := fun g cs' hg => by
  have hne : g ≠ b := by
    rintro rfl
    rw [h] at hg
    simp at hg
  exact (Below.heap_setCell _ _ _ _ hne).trans hg
theorem keep3 {w : World} {b : Nat} {x y v x' y' v' : Value} (h : w.heap[b]? = some (.cells #[x, y, v] 48 (0, 0))) :
    KeepsSp w (((w.setCell ⟨b, 0, none⟩ x').setCell ⟨b, 1, none⟩ y').setCell ⟨b, 2, none⟩ v') := ((KeepsSp.setCell h).trans (KeepsSp.setCell (set3_0 h))).trans (KeepsSp.setCell (set3_1 (set3_0 h)))

/-- What lay below stays. -/
def CharsAt' (w wr : World) (A : Option Addr) (l : List Ch) : Prop := Below w.heap.size w wr ∧ CharsAt wr A l ∧ ∀ a, A = some a → a.block < w.heap.size
theorem CharsAt'.belowN {w wr W : World} {A : Option Addr} {l : List Ch} (h : CharsAt' w wr A l) (hB : Below w.heap.size w W) : CharsAt W A l := fun k hk => by
  obtain ⟨g, o, e, h1, h2⟩ := h.2.1 k hk
  have hg : g < w.heap.size := h.2.2 _ e
  have e1 : ∀ o, W.cell? ⟨g, o, none⟩ = wr.cell? ⟨g, o, none⟩ := fun o => (hB.cell (p := ⟨g, o, none⟩) hg).trans (h.1.cell (p := ⟨g, o, none⟩) hg).symm
  exact ⟨g, o, e, (e1 _).trans h1, (e1 _).trans h2⟩
theorem var3' {W : World} {B : Nat} {O o : Obj} (h : W.heap[B]? = some o) : ((W.alloc O).drew).heap[B]? = some o := (Below.heap_alloc W O B (lt_of_block h)).trans h

set_option maxHeartbeats 8000000 in
theorem set_any (g o cap : Nat) (l : List Ch) (w : World) (hl : l.length ≤ 1099511627776) (h0 : 0 < l.length) (hcap : l.length ≤ cap) (h : CharsAt w (some ⟨g, o, none⟩) l) :
    Calls Try.prog 37 #[.slice (some ⟨g, o, none⟩) l.length cap] w fun e w' => ∃ v, e = .returned v ∧ PtAt w' v (setL l) ∧ Below w.heap.size w w' := by
  obtain ⟨i0, hi, hz0, hz1, hz2⟩ := info_parts info_span
  have cO := fun W => others_any l[0].1 l[0].2 W
  obtain ⟨c1, c2⟩ := h.first h0
  have hgN : g < w.heap.size := World.block_lt_of_cell? w _ c1
  have HL := hid (setL_eq h0)
  have d1 : ∀ O, (w.alloc O).cell? ⟨g, o, none⟩ = some (.int .u8 l[0].1.toNat) := fun O => cell_below ((Below.refl _ _).alloc (Nat.le_refl _) O) c1
  have d2 : ∀ O, (w.alloc O).cell? ⟨g, o + 1, none⟩ = some (.bool l[0].2) := fun O => cell_below ((Below.refl _ _).alloc (Nat.le_refl _) O) c2
  obtain ⟨b, hb⟩ : ∃ b, othersB (l[0].1, l[0].2) = b := ⟨_, rfl⟩
  rw [hb] at cO
  obtain ⟨r0, hr0⟩ : ∃ r0, r0 = if b then l.drop 1 else l := ⟨_, rfl⟩
  have HV : Hid (setL l = ⟨false, b, setSp r0⟩ ∧ r0.length ≤ l.length) := hid ⟨by rw [HL.out, hr0, ← hb], by rw [hr0]; split <;> simp⟩
  clear HL hb
  go_enter Try.func37, Try.ntmps37
  go_upto_if 11 with (go_at_call 40; refine (cO _).mono ?_; rintro e w1 ⟨rfl, hb1⟩)
  have hB1 : Below w.heap.size w w1 := ((Below.refl _ w).alloc (Nat.le_refl _) _).trans (hb1.mono (by simp))
  have hB2 : Below w.heap.size w (w1.alloc (.cells #[.bool false, .bool b, .slice none 0 0] 48)) := hB1.alloc hB1.size _
  have hr1 : w1.heap[w.heap.size]? = some (.cells #[.bool false, .bool false, .slice none 0 0] 48 (0, 0)) := (hb1.block _ (by simp)).trans (heap_alloc_new w _)
  have hltN : w.heap.size < w1.heap.size := lt_of_block hr1
  have hV0 : SetVar w.heap.size w1.heap.size b [] (w1.alloc (.cells #[.bool false, .bool b, .slice none 0 0] 48)) :=
    ⟨_, heap_alloc_new w1 _, World.ownsRow_nil _ _ _ _, by simp [Value.ownBlock], hB1.size⟩
  have hr2 : (w1.alloc (.cells #[.bool false, .bool b, .slice none 0 0] 48)).heap[w.heap.size]? = _ := (Below.heap_alloc w1 _ _ (lt_of_block hr1)).trans hr1
  have hc2 := h.below hB2
  clear d1 d2 c1 c2 cO
  go_cut [0] from 12 (fun p wc => ChSl w.heap.size (w1.alloc (.cells #[.bool false, .bool b, .slice none 0 0] 48)) p r0 ∧ wc = w1.alloc (.cells #[.bool false, .bool b, .slice none 0 0] 48))
  case first =>
    cases b
    · go_wp2_with fail
      go_meet
      exact ⟨by rw [hr0]; exact ⟨g, o, cap, rfl, hcap, hgN, hc2⟩, rfl⟩
    · by_cases hc1 : cap = 1
      · subst hc1
        go_wp2_with fail
        go_meet
        exact ⟨by rw [hr0]; exact ChSl.empty 1 hgN (by omega) (by omega), rfl⟩
      · go_wp2_with fail
        go_meet
        exact ⟨by rw [hr0]; exact ChSl.drop hc2 hgN hcap 1 _ _ rfl rfl, rfl⟩
  case rest =>
    obtain ⟨hch0, rfl⟩ := hcut
    go_wp2_with fail
    go_loopw [0] (fun p wr => ∃ (r : List Ch) (sp : List Sp), ChSl w.heap.size wr p r ∧ Below w.heap.size w wr ∧ SetVar w.heap.size w1.heap.size b sp wr ∧ wr.heap[w.heap.size]? = some (.cells #[.bool false, .bool false, .slice none 0 0] 48 (0, 0)) ∧ Hid (setL l = ⟨false, b, sp ++ setSp r⟩ ∧ sp.length + r.length ≤ l.length)) (fun p _ => lenOf p)
    case atStart => exact ⟨r0, [], hch0, hB2, hV0, hr2, hid ⟨HV.out.1, by simpa using HV.out.2⟩⟩
    case round =>
      obtain ⟨r, sp, hch, hB, hvar, hres, HE⟩ := hrel
      obtain ⟨ag, ao, ac, rfl, hac, hagN, hch⟩ := hch
      obtain ⟨sv, hbk, hown, hne, hNB⟩ := hvar
      have e0 : wr.cell? ⟨w1.heap.size, 2, none⟩ = some sv := three_cell hbk
      have f0 : wr.frozen? ⟨w1.heap.size, 2, none⟩ = false := three_free (k := 2) hbk
      have hlt := lt_of_block hbk
      have hltr := lt_of_block hres
      have hspl : sp.length + r.length ≤ l.length := HE.out.2
      have hch0 : CharsAt' w wr (some ⟨ag, ao, none⟩) r := ⟨hB, hch, fun a e => by cases e; exact hagN⟩
      by_cases hr0 : 0 < r.length
      · obtain ⟨p0, p1⟩ := hch.first hr0
        by_cases h2 : 2 < r.length
        · obtain ⟨q0, q1⟩ := hch.at_ 1 (by omega)
          have cP := fun W => spans_any r[1].1 r[1].2 W
          simp only [Nat.one_mul] at q0 q1
          cases hsp : spansB r[1]
          · have HN := hid (setSp_not h2 hsp)
            rw [hsp] at cP
            clear hsp h hch
            go_wp2_with (go_at_call 42; refine (cP _).mono ?_; rintro e w2 ⟨rfl, hb2⟩; have P0 := cell_below hb2 p0; have E0 := cell_below hb2 e0; have hown2 := own_below hown hb2; have hbk2 := (hb2.block _ hlt).trans hbk; have F0 := (frozen_below hb2 hlt).trans f0; have hres2 := (hb2.block _ hltr).trans hres; have hB2' := hB.trans (hb2.mono hB.size); have hS := hB2'.size)
            have hi0 : (0 : Int) < (r.length : Int) := by omega
            have hw0 : IntKind.i64.wrap 0 = 0 := by decide
            have lg : ag < w2.heap.size := by have := hS; omega
            have hlt2 := lt_of_block hbk2
            have hagB : ag ≠ w1.heap.size := by have := hB1.size; omega
            have hagv : sv.ownBlock ≠ some ag := fun e => by have := (hown2.lt _ e).1; omega
            go_region_law ((refine step_append_lies _ (by rfl) _ _ _ (by rfl) w.heap.size 59 i0 _ 2 2 Try.underlying46 hi hz0 hz1 hz2 rfl (by omega) sv sp.length (spCells sp) (by rfl) ((hown2.alloc _).drew) ⟨w2.heap.size, 0, none⟩ 1 1 [.int .u8 r[0].1.toNat, .int .u8 r[0].1.toNat] (by rfl) (by rfl) (World.news_of_block (cs := #[.int .u8 r[0].1.toNat, .int .u8 r[0].1.toNat]) (t := 59) (fr := (0, 0)) (heap_alloc_new w2 _)) (by simp [Value.oneCell']) (by omega) (by unfold maxLen; omega) (by omega) (by simp; omega) (w2.heap.size + 1) (by simp) ?_; intro gg cap' w3 hown3 hgrow hat hlt3; have hbk3 := var3 hbk2 hne hgrow; have C3 := three_cell hbk3; have F3 := three_free (k := 2) hbk3))
            all_goals
              have HVv : Hid (SetVar w.heap.size w1.heap.size b (sp ++ [(r[0].1, r[0].1)]) (w3.setCell ⟨w1.heap.size, 2, none⟩ (.slice (some ⟨gg, 0, none⟩) (sp.length + 1) cap'))) := hid (SetVar.stored (var3' hbk2) hne hNB hgrow (by simpa [spCells_snoc] using hown3))
              have HBB : Hid (Below w.heap.size w (w3.setCell ⟨w1.heap.size, 2, none⟩ (.slice (some ⟨gg, 0, none⟩) (sp.length + 1) cap'))) := hid ((((hB2'.alloc hS _).drew).grown hgrow (by simp; omega) (fun k hk => (hown2.lt k hk).1)).setCell hNB _)
              have HRR : Hid ((w3.setCell ⟨w1.heap.size, 2, none⟩ (.slice (some ⟨gg, 0, none⟩) (sp.length + 1) cap')).heap[w.heap.size]? = some (.cells #[.bool false, .bool false, .slice none 0 0] 48 (0, 0))) := hid ((Below.heap_setCell _ _ _ _ (by show w.heap.size ≠ w1.heap.size; omega)).trans (var3 hres2 (own_ne_var hres2 hown2) hgrow))
              have HH : Hid (setL l = ⟨false, b, (sp ++ [(r[0].1, r[0].1)]) ++ setSp (r.drop 1)⟩ ∧ (sp ++ [(r[0].1, r[0].1)]).length + (r.drop 1).length ≤ l.length) := hid ⟨by rw [HE.out.1, HN.out]; simp, by rw [List.length_append, List.length_drop]; simp; omega⟩
              have HC : Hid (CharsAt (w3.setCell ⟨w1.heap.size, 2, none⟩ (.slice (some ⟨gg, 0, none⟩) (sp.length + 1) cap')) (some ⟨ag, ao, none⟩) r) := hid (hch0.belowN HBB.out)
              clear hown3 hgrow hat hbk3 C3 F3 hlt3
              go_wp2_with fail
              all_goals
                go_roundw
                case rel => exact ⟨r.drop 1, sp ++ [(r[0].1, r[0].1)], (by first | exact ChSl.drop HC.out hagN hac 1 _ _ rfl rfl | exact ChSl.empty 1 hagN (by omega) (by omega) | (split <;> first | exact ChSl.drop HC.out hagN hac 1 _ _ rfl rfl | exact ChSl.empty 1 hagN (by omega) (by omega))), HBB.out, HVv.out, HRR.out, HH⟩
                case measure => simp [lenOf]; omega
          · have HN := hid (setSp_span h2 hsp)
            have p2 := (hch.at_ 2 h2).1
            simp only [Nat.reduceMul] at p2
            rw [hsp] at cP
            clear hsp h hch
            go_wp2_with (go_at_call 42; refine (cP _).mono ?_; rintro e w2 ⟨rfl, hb2⟩; have P2 := cell_below hb2 p2; have P0 := cell_below hb2 p0; have E0 := cell_below hb2 e0; have hown2 := own_below hown hb2; have hbk2 := (hb2.block _ hlt).trans hbk; have F0 := (frozen_below hb2 hlt).trans f0; have hres2 := (hb2.block _ hltr).trans hres; have hB2' := hB.trans (hb2.mono hB.size); have hS := hB2'.size)
            have hi0 : (0 : Int) < (r.length : Int) := by omega
            have hi2 : (2 : Int) < (r.length : Int) := by omega
            have hw0 : IntKind.i64.wrap 2 = 2 := by decide
            have ht0 : (2 : Int).toNat = 2 := rfl
            have lg : ag < w2.heap.size := by have := hS; omega
            have hlt2 := lt_of_block hbk2
            have hagB : ag ≠ w1.heap.size := by have := hB1.size; omega
            have hagv : sv.ownBlock ≠ some ag := fun e => by have := (hown2.lt _ e).1; omega
            go_region_law ((refine step_append_lies _ (by rfl) _ _ _ (by rfl) w.heap.size 59 i0 _ 2 2 Try.underlying46 hi hz0 hz1 hz2 rfl (by omega) sv sp.length (spCells sp) (by rfl) ((hown2.alloc _).drew) ⟨w2.heap.size, 0, none⟩ 1 1 [.int .u8 r[0].1.toNat, .int .u8 r[2].1.toNat] (by rfl) (by rfl) (World.news_of_block (cs := #[.int .u8 r[0].1.toNat, .int .u8 r[2].1.toNat]) (t := 59) (fr := (0, 0)) (heap_alloc_new w2 _)) (by simp [Value.oneCell']) (by omega) (by unfold maxLen; omega) (by omega) (by simp; omega) (w2.heap.size + 1) (by simp) ?_; intro gg cap' w3 hown3 hgrow hat hlt3; have hbk3 := var3 hbk2 hne hgrow; have C3 := three_cell hbk3; have F3 := three_free (k := 2) hbk3))
            all_goals
              have HVv : Hid (SetVar w.heap.size w1.heap.size b (sp ++ [(r[0].1, r[2].1)]) (w3.setCell ⟨w1.heap.size, 2, none⟩ (.slice (some ⟨gg, 0, none⟩) (sp.length + 1) cap'))) := hid (SetVar.stored (var3' hbk2) hne hNB hgrow (by simpa [spCells_snoc] using hown3))
              have HBB : Hid (Below w.heap.size w (w3.setCell ⟨w1.heap.size, 2, none⟩ (.slice (some ⟨gg, 0, none⟩) (sp.length + 1) cap'))) := hid ((((hB2'.alloc hS _).drew).grown hgrow (by simp; omega) (fun k hk => (hown2.lt k hk).1)).setCell hNB _)
              have HRR : Hid ((w3.setCell ⟨w1.heap.size, 2, none⟩ (.slice (some ⟨gg, 0, none⟩) (sp.length + 1) cap')).heap[w.heap.size]? = some (.cells #[.bool false, .bool false, .slice none 0 0] 48 (0, 0))) := hid ((Below.heap_setCell _ _ _ _ (by show w.heap.size ≠ w1.heap.size; omega)).trans (var3 hres2 (own_ne_var hres2 hown2) hgrow))
              have HH : Hid (setL l = ⟨false, b, (sp ++ [(r[0].1, r[2].1)]) ++ setSp (r.drop 3)⟩ ∧ (sp ++ [(r[0].1, r[2].1)]).length + (r.drop 3).length ≤ l.length) := hid ⟨by rw [HE.out.1, HN.out]; simp, by rw [List.length_append, List.length_drop]; simp; omega⟩
              have HC : Hid (CharsAt (w3.setCell ⟨w1.heap.size, 2, none⟩ (.slice (some ⟨gg, 0, none⟩) (sp.length + 1) cap')) (some ⟨ag, ao, none⟩) r) := hid (hch0.belowN HBB.out)
              clear hown3 hgrow hat hbk3 C3 F3 hlt3
              go_wp2_with fail
              all_goals
                go_roundw
                case rel => exact ⟨r.drop 3, sp ++ [(r[0].1, r[2].1)], (by first | exact ChSl.drop HC.out hagN hac 3 _ _ rfl rfl | exact ChSl.empty 3 hagN (by omega) (by omega) | (split <;> first | exact ChSl.drop HC.out hagN hac 3 _ _ rfl rfl | exact ChSl.empty 3 hagN (by omega) (by omega))), HBB.out, HVv.out, HRR.out, HH⟩
                case measure => simp [lenOf]; omega
        · have HN := hid (setSp_one hr0 h2)
          obtain ⟨w2, hw2⟩ : ∃ w2, w2 = wr := ⟨_, rfl⟩
          have hb2 : Below wr.heap.size wr w2 := by rw [hw2]; exact Below.refl _ _
          have P0 := cell_below hb2 p0; have E0 := cell_below hb2 e0; have hown2 := own_below hown hb2; have hbk2 := (hb2.block _ hlt).trans hbk; have F0 := (frozen_below hb2 hlt).trans f0; have hres2 := (hb2.block _ hltr).trans hres; have hB2' := hB.trans (hb2.mono hB.size); have hS := hB2'.size
          rw [← hw2]
          clear hw2 h hch
          go_wp2_with fail
          have hi0 : (0 : Int) < (r.length : Int) := by omega
          have hw0 : IntKind.i64.wrap 0 = 0 := by decide
          have lg : ag < w2.heap.size := by have := hS; omega
          have hlt2 := lt_of_block hbk2
          have hagB : ag ≠ w1.heap.size := by have := hB1.size; omega
          have hagv : sv.ownBlock ≠ some ag := fun e => by have := (hown2.lt _ e).1; omega
          go_region_law ((refine step_append_lies _ (by rfl) _ _ _ (by rfl) w.heap.size 59 i0 _ 2 2 Try.underlying46 hi hz0 hz1 hz2 rfl (by omega) sv sp.length (spCells sp) (by rfl) ((hown2.alloc _).drew) ⟨w2.heap.size, 0, none⟩ 1 1 [.int .u8 r[0].1.toNat, .int .u8 r[0].1.toNat] (by rfl) (by rfl) (World.news_of_block (cs := #[.int .u8 r[0].1.toNat, .int .u8 r[0].1.toNat]) (t := 59) (fr := (0, 0)) (heap_alloc_new w2 _)) (by simp [Value.oneCell']) (by omega) (by unfold maxLen; omega) (by omega) (by simp; omega) (w2.heap.size + 1) (by simp) ?_; intro gg cap' w3 hown3 hgrow hat hlt3; have hbk3 := var3 hbk2 hne hgrow; have C3 := three_cell hbk3; have F3 := three_free (k := 2) hbk3))
          all_goals
            have HVv : Hid (SetVar w.heap.size w1.heap.size b (sp ++ [(r[0].1, r[0].1)]) (w3.setCell ⟨w1.heap.size, 2, none⟩ (.slice (some ⟨gg, 0, none⟩) (sp.length + 1) cap'))) := hid (SetVar.stored (var3' hbk2) hne hNB hgrow (by simpa [spCells_snoc] using hown3))
            have HBB : Hid (Below w.heap.size w (w3.setCell ⟨w1.heap.size, 2, none⟩ (.slice (some ⟨gg, 0, none⟩) (sp.length + 1) cap'))) := hid ((((hB2'.alloc hS _).drew).grown hgrow (by simp; omega) (fun k hk => (hown2.lt k hk).1)).setCell hNB _)
            have HRR : Hid ((w3.setCell ⟨w1.heap.size, 2, none⟩ (.slice (some ⟨gg, 0, none⟩) (sp.length + 1) cap')).heap[w.heap.size]? = some (.cells #[.bool false, .bool false, .slice none 0 0] 48 (0, 0))) := hid ((Below.heap_setCell _ _ _ _ (by show w.heap.size ≠ w1.heap.size; omega)).trans (var3 hres2 (own_ne_var hres2 hown2) hgrow))
            have HH : Hid (setL l = ⟨false, b, (sp ++ [(r[0].1, r[0].1)]) ++ setSp (r.drop 1)⟩ ∧ (sp ++ [(r[0].1, r[0].1)]).length + (r.drop 1).length ≤ l.length) := hid ⟨by rw [HE.out.1, HN.out]; simp, by rw [List.length_append, List.length_drop]; simp; omega⟩
            have HC : Hid (CharsAt (w3.setCell ⟨w1.heap.size, 2, none⟩ (.slice (some ⟨gg, 0, none⟩) (sp.length + 1) cap')) (some ⟨ag, ao, none⟩) r) := hid (hch0.belowN HBB.out)
            clear hown3 hgrow hat hbk3 C3 F3 hlt3
            go_wp2_with fail
            all_goals
              go_roundw
              case rel => exact ⟨r.drop 1, sp ++ [(r[0].1, r[0].1)], (by first | exact ChSl.drop HC.out hagN hac 1 _ _ rfl rfl | exact ChSl.empty 1 hagN (by omega) (by omega) | (split <;> first | exact ChSl.drop HC.out hagN hac 1 _ _ rfl rfl | exact ChSl.empty 1 hagN (by omega) (by omega))), HBB.out, HVv.out, HRR.out, HH⟩
              case measure => simp [lenOf]; omega
      · obtain rfl : r = [] := by
          cases r with
          | nil => rfl
          | cons _ _ => simp at hr0
        obtain ⟨sa, sn, sc, rfl⟩ := own_slice hown
        have HP : Hid (PtAt wr (.agg #[.bool false, .bool b, .slice sa sn sc]) (setL l)) := hid (by
          rw [HE.out.1]
          exact ⟨_, rfl, by simpa [setSp] using SpAt.of_own hown rfl⟩)
        have e1 : wr.cell? ⟨w1.heap.size, 0, none⟩ = some (.bool false) := by simp [World.cell?, hbk]
        have e2 : wr.cell? ⟨w1.heap.size, 1, none⟩ = some (.bool b) := by simp [World.cell?, hbk]
        have i0 : wr.cell? ⟨w.heap.size, 0, none⟩ = some (.bool false) := by simp [World.cell?, hres]
        have i1 : wr.cell? ⟨w.heap.size, 1, none⟩ = some (.bool false) := by simp [World.cell?, hres]
        have i2 : wr.cell? ⟨w.heap.size, 2, none⟩ = some (.slice none 0 0) := by simp [World.cell?, hres]
        have j0 : wr.frozen? ⟨w.heap.size, 0, none⟩ = false := three_free (k := 0) hres
        have j1 : wr.frozen? ⟨w.heap.size, 1, none⟩ = false := three_free (k := 1) hres
        have j2 : wr.frozen? ⟨w.heap.size, 2, none⟩ = false := three_free (k := 2) hres
        clear h hch hch0 HE
        have HR := hid hres
        have HBB := hid hB
        clear hres hB hbk hown
        go_wp2_with fail
        refine bodyPost_ret (results_cell_row rfl _ _ w.heap.size 48 #[.bool false, .bool b, .slice sa sn sc] (0, 0) _ (by rfl) (set3 HR.out) Try.underlying48 rfl part_size) rfl ?_
        exact ⟨_, rfl, HP.out.keep (keep3 HR.out), ((HBB.out.setCell (Nat.le_refl _) _).setCell (Nat.le_refl _) _).setCell (Nat.le_refl _) _⟩
end Go.Proofs.Ytcaenkffoilleaa
