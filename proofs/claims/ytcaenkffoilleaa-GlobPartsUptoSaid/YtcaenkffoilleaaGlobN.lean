/- slices.Reverse at rows of rows of parts, and at rows of parts, of the call's own. No conditions. -/
import Derived.Test.YtcaenkffoilleaaGlobK
import Derived.Deep.LoopGhost
namespace Go.Proofs.Ytcaenkffoilleaa
open Go.RowKit Go.Shelf
open Go.Lib (hid)

/-- k from both ends exchanged. -/
def Mix {α : Type} (k : Nat) (xs ys : List α) : Prop := ys.length = xs.length ∧ ∀ t, t < xs.length → ys[t]? = if t < k ∨ xs.length ≤ t + k then xs[xs.length - 1 - t]? else xs[t]?
theorem Mix.zero {α : Type} (xs : List α) : Mix 0 xs xs := ⟨rfl, fun t ht => by rw [if_neg (by omega)]⟩
theorem Mix.done {α : Type} {k : Nat} {xs ys : List α} (h : Mix k xs ys) (hk : xs.length ≤ k + k + 1) : ys = xs.reverse := by
  apply List.ext_getElem?
  intro t
  by_cases ht : t < xs.length
  · rw [h.2 t ht, List.getElem?_reverse ht]
    by_cases hc : t < k ∨ xs.length ≤ t + k
    · rw [if_pos hc]
    · rw [if_neg hc, show xs.length - 1 - t = t by omega]
  · rw [List.getElem?_eq_none (by rw [h.1]; omega), List.getElem?_eq_none (by rw [List.length_reverse]; omega)]
theorem Mix.step {α : Type} {k : Nat} {xs ys : List α} (h : Mix k xs ys) (hk : k + k + 1 < xs.length) {a b : α} (ha : ys[k]? = some a) (hb : ys[xs.length - 1 - k]? = some b) :
    Mix (k + 1) xs ((ys.set k b).set (xs.length - 1 - k) a) := by
  have h1 := h.2 k (by omega)
  have h2 := h.2 (xs.length - 1 - k) (by omega)
  rw [if_neg (by omega)] at h1 h2
  refine ⟨by simp [h.1], fun t ht => ?_⟩
  rw [List.getElem?_set, List.getElem?_set, List.length_set, h.1]
  by_cases e2 : xs.length - 1 - k = t
  · subst e2
    rw [if_pos rfl, if_pos (by omega), if_pos (by omega), show xs.length - 1 - (xs.length - 1 - k) = k by omega, ← h1, ha]
  · rw [if_neg e2]
    by_cases e1 : k = t
    · subst e1
      rw [if_pos rfl, if_pos (by omega), if_pos (by omega), ← h2, hb]
    · rw [if_neg e1, h.2 t ht]
      by_cases hc : t < k ∨ xs.length ≤ t + k
      · rw [if_pos hc, if_pos (by omega)]
      · rw [if_neg hc, if_neg (by omega)]

theorem Mix.mid {α : Type} {k : Nat} {xs ys : List α} (h : Mix k xs ys) {t : Nat} (h1 : k ≤ t) (h2 : t + k < xs.length) : ys[t]? = xs[t]? := by
  rw [h.2 t (by omega), if_neg (by omega)]
theorem Mix.mem {α : Type} {k : Nat} {xs ys : List α} (h : Mix k xs ys) {x : α} (hx : x ∈ ys) : x ∈ xs := by
  obtain ⟨t, ht⟩ := List.mem_iff_getElem?.1 hx
  have hlt : t < xs.length := by
    rw [← h.1]
    rcases Nat.lt_or_ge t ys.length with h | h
    · exact h
    · rw [List.getElem?_eq_none h] at ht; cases ht
  rw [h.2 t hlt] at ht
  split at ht
  · exact List.mem_of_getElem? ht
  · exact List.mem_of_getElem? ht
theorem grown_self (w : World) (r : Option Nat) : w.grownBy w r := ⟨rfl, rfl, rfl, Nat.le_refl _, fun _ _ _ => rfl⟩
theorem grown_trans {a b c : World} {r : Option Nat} (h : a.grownBy b r) (k : b.grownBy c r) : a.grownBy c r := ⟨k.os.trans h.os, k.tape.trans h.tape, k.output.trans h.output, Nat.le_trans h.size k.size, fun i hi hr => (k.block i (Nat.lt_of_lt_of_le hi h.size) hr).trans (h.block i hi hr)⟩
theorem grown_drew {w w' : World} {r : Option Nat} (h : w.grownBy w' r) : w.grownBy w'.drew r := ⟨h.os, h.tape, h.output, h.size, h.block⟩
theorem own_drew {W : World} {N e k n : Nat} {v : Value} {xs : List Value} (h : W.ownsRow N e k v n xs) : W.drew.ownsRow N e k v n xs := h
theorem own_len1 {W : World} {N e n : Nat} {v : Value} {xs : List Value} (h : W.ownsRow N e 1 v n xs) : xs.length = n := by have := h.1; omega

theorem swapped {N n cap g i j : Nat} {e : TypeId} {w0 w : World} {ys : List Value} (h : w.ownsRow N e 1 (.slice (some ⟨g, 0, none⟩) n cap) n ys) (hg : w0.grownBy w (some g)) (a b : Value) :
    (((w.setCell ⟨g, i, none⟩ b).setCell ⟨g, j, none⟩ a).drew).ownsRow N e 1 (.slice (some ⟨g, 0, none⟩) n cap) n ((ys.set i b).set j a) ∧ w0.grownBy (((w.setCell ⟨g, i, none⟩ b).setCell ⟨g, j, none⟩ a).drew) (some g) := by
  obtain ⟨h1, g1⟩ := h.stored i b
  obtain ⟨h2, g2⟩ := h1.stored j a
  exact ⟨own_drew h2, grown_drew (grown_trans (grown_trans hg g1) g2)⟩

set_option maxHeartbeats 1000000 in
theorem revRows_any (N : Nat) (v : Value) (vs : List Value) (w : World) (h : w.ownsRow N 44 1 v vs.length vs) (hn : vs.length ≤ 1099511627776) (hsl : ∀ (t : Nat) (u : Value), vs[t]? = some u → ∃ A n c, u = Value.slice A n c) :
    Calls Try.prog 22 #[v] w fun e w' => e = .returned (.tuple #[]) ∧ w'.ownsRow N 44 1 v vs.length vs.reverse ∧ w.grownBy w' v.ownBlock := by
  go_enter Try.func22, Try.ntmps22
  by_cases h0 : vs.length = 0
  · obtain rfl : vs = [] := List.eq_nil_of_length_eq_zero h0
    obtain ⟨A, cap, rfl⟩ : ∃ A cap, v = .slice A 0 cap := by
      rcases h.2 with ⟨hv, _⟩ | ⟨g, cap, cur, hv, _⟩
      · exact ⟨none, 0, hv⟩
      · exact ⟨_, _, hv⟩
    go_wp2
    go_loopw [2, 3] (fun s2 s3 wr => s2 = .int .i64 0 ∧ s3 = .int .i64 (-1) ∧ wr = w) (fun _ _ _ => 0)
    case atStart => exact ⟨rfl, rfl, rfl⟩
    case round =>
      obtain ⟨rfl, rfl, rfl⟩ := hrel
      go_wp2
      go_end0
      exact ⟨rfl, h, grown_self _ _⟩
  · obtain ⟨g, cap, rfl, _, _⟩ := h.form (by omega)
    go_wp2
    go_loopw [2, 3] (fun s2 s3 wr => ∃ (k : Nat) (ys : List Value), k + k ≤ vs.length ∧ s2 = .int .i64 k ∧ s3 = .int .i64 ((vs.length : Int) - 1 - k) ∧ Mix k vs ys ∧ wr.ownsRow N 44 1 (.slice (some ⟨g, 0, none⟩) vs.length cap) vs.length ys ∧ w.grownBy wr (some g)) (fun s2 _ _ => vs.length - (intOf s2).toNat)
    case atStart => exact ⟨0, vs, by omega, rfl, by simp, Mix.zero _, h, grown_self _ _⟩
    case round =>
      obtain ⟨k, ys, hk, rfl, rfl, hm, ho, hg⟩ := hrel
      by_cases hlt : (k : Int) < (vs.length : Int) - 1 - k
      · have q1 := hm.mid (t := k) (Nat.le_refl _) (by omega)
        have q2 := hm.mid (t := vs.length - 1 - k) (by omega) (by omega)
        have r1 : vs[k]? = some vs[k] := List.getElem?_eq_getElem _
        have r2 : vs[vs.length - 1 - k]? = some (vs[vs.length - 1 - k]'(by omega)) := List.getElem?_eq_getElem _
        obtain ⟨A1, n1, c1, e1⟩ := hsl _ _ r1
        obtain ⟨A2, n2, c2, e2⟩ := hsl _ _ r2
        rw [r1, e1] at q1
        rw [r2, e2] at q2
        have ci : wr.cell? ⟨g, k, none⟩ = some (.slice A1 n1 c1) := by rw [ho.cellAt k (by omega)]; exact q1
        have cj : wr.cell? ⟨g, vs.length - 1 - k, none⟩ = some (.slice A2 n2 c2) := by rw [ho.cellAt _ (by omega)]; exact q2
        have fi := ho.frozenAt k
        have fj := ho.frozenAt (vs.length - 1 - k)
        have e1 : ((vs.length : Int) - 1 - k).toNat = vs.length - 1 - k := by omega
        have b0 : (k : Int) < (vs.length : Int) := by omega
        have b1 : (0 : Int) ≤ (vs.length : Int) - 1 - k := by omega
        have b2 : (vs.length : Int) - 1 - k < (vs.length : Int) := by omega
        have b3 : (k : Int) ≤ (vs.length : Int) - 1 := by omega
        have HM := hid (Mix.step hm (by omega) q1 q2)
        have HO := hid ho
        have HG := hid hg
        have HL := hid hlt
        clear hm ho hg h q1 q2 r1 r2 hsl
        go_wp2
        go_region
        go_wp2
        obtain ⟨o1, o2⟩ := swapped (i := k) (j := vs.length - 1 - k) HO.out HG.out (.slice A1 n1 c1) (.slice A2 n2 c2)
        exact ⟨⟨k + 1, _, by omega, by simp, by congr 1; omega, HM.out, o1, o2⟩, by simp [intOf]; omega⟩
      · have hd := hm.done (by omega)
        subst hd
        go_wp2
        go_end0
        exact ⟨rfl, ho, hg⟩

theorem three {W : World} {v : Value} {q : Pt} (h : PtAt W v q) : ∃ sA sc, v.cells.toList = [.bool q.star, .bool q.neg, .slice sA q.spans.length sc] := by
  obtain ⟨sv, e, hs⟩ := h
  obtain ⟨A, cap, rfl, _⟩ := id hs
  exact ⟨A, cap, by simp [e, Value.cells]⟩
theorem cellsG_cons {x : Item} {ys : List Item} {a b c : Value} (h : x.1.cells.toList = [a, b, c]) : cellsG (x :: ys) = a :: b :: c :: cellsG ys := by
  show x.1.cells.toList ++ cellsG ys = _
  rw [h]; rfl
theorem cellG_at : ∀ (ys : List Item), (∀ x ∈ ys, ∃ a b c, x.1.cells.toList = [a, b, c]) → ∀ k (h : k < ys.length) j, j < 3 → (cellsG ys)[k * 3 + j]? = ys[k].1.cells.toList[j]?
  | x :: ys, hp, 0, _, j, hj => by
    obtain ⟨a, b, c, e⟩ := hp x (List.mem_cons_self ..)
    rw [cellsG_cons e]
    show _ = x.1.cells.toList[j]?
    rw [e]
    match j, hj with
    | 0, _ => rfl
    | 1, _ => rfl
    | 2, _ => rfl
  | x :: ys, hp, k + 1, h, j, hj => by
    obtain ⟨a, b, c, e⟩ := hp x (List.mem_cons_self ..)
    rw [cellsG_cons e, show (k + 1) * 3 + j = (k * 3 + j) + 1 + 1 + 1 by omega]
    exact cellG_at ys (fun y hy => hp y (List.mem_cons_of_mem _ hy)) k (by simpa using h) j hj
theorem cellsG_set : ∀ (ys : List Item), (∀ x ∈ ys, ∃ a b c, x.1.cells.toList = [a, b, c]) → ∀ (k : Nat) (y : Item) (u0 u1 u2 : Value), y.1.cells.toList = [u0, u1, u2] → (((cellsG ys).set (k * 3) u0).set (k * 3 + 1) u1).set (k * 3 + 2) u2 = cellsG (ys.set k y)
  | [], _, k, y, u0, u1, u2, _ => by simp [cellsG]
  | x :: ys, hp, 0, y, u0, u1, u2, hy => by
    obtain ⟨a, b, c, e⟩ := hp x (List.mem_cons_self ..)
    show _ = cellsG (y :: ys)
    rw [cellsG_cons e, cellsG_cons hy]
    rfl
  | x :: ys, hp, k + 1, y, u0, u1, u2, hy => by
    obtain ⟨a, b, c, e⟩ := hp x (List.mem_cons_self ..)
    rw [cellsG_cons e, List.set_cons_succ, cellsG_cons e, ← cellsG_set ys (fun y hy => hp y (List.mem_cons_of_mem _ hy)) k y u0 u1 u2 hy, show (k + 1) * 3 = k * 3 + 1 + 1 + 1 by omega, show k * 3 + 1 + 1 + 1 + 1 = (k * 3 + 1) + 1 + 1 + 1 by omega, show k * 3 + 1 + 1 + 1 + 2 = (k * 3 + 2) + 1 + 1 + 1 by omega]
    rfl
theorem swapped3 {N n cap g i j : Nat} {e : TypeId} {w0 w : World} {ys : List Item} (h3 : ∀ x ∈ ys, ∃ a b c, x.1.cells.toList = [a, b, c]) (h : w.ownsRow N e 3 (.slice (some ⟨g, 0, none⟩) n cap) n (cellsG ys)) (hg : w0.grownBy w (some g)) (y x : Item) {u0 u1 u2 t0 t1 t2 : Value} (hy : y.1.cells.toList = [u0, u1, u2]) (hx : x.1.cells.toList = [t0, t1, t2]) :
    ((((((((w.setCell ⟨g, i * 3, none⟩ u0).setCell ⟨g, i * 3 + 1, none⟩ u1).setCell ⟨g, i * 3 + 2, none⟩ u2).setCell ⟨g, j * 3, none⟩ t0).setCell ⟨g, j * 3 + 1, none⟩ t1).setCell ⟨g, j * 3 + 2, none⟩ t2).drew).ownsRow N e 3 (.slice (some ⟨g, 0, none⟩) n cap) n (cellsG ((ys.set i y).set j x)) ∧
      w0.grownBy ((((((w.setCell ⟨g, i * 3, none⟩ u0).setCell ⟨g, i * 3 + 1, none⟩ u1).setCell ⟨g, i * 3 + 2, none⟩ u2).setCell ⟨g, j * 3, none⟩ t0).setCell ⟨g, j * 3 + 1, none⟩ t1).setCell ⟨g, j * 3 + 2, none⟩ t2).drew (some g)) := by
  obtain ⟨h1, g1⟩ := h.stored (i * 3) u0
  obtain ⟨h2, g2⟩ := h1.stored (i * 3 + 1) u1
  obtain ⟨h3', g3⟩ := h2.stored (i * 3 + 2) u2
  rw [cellsG_set ys h3 i y u0 u1 u2 hy] at h3'
  obtain ⟨h4, g4⟩ := h3'.stored (j * 3) t0
  obtain ⟨h5, g5⟩ := h4.stored (j * 3 + 1) t1
  obtain ⟨h6, g6⟩ := h5.stored (j * 3 + 2) t2
  rw [cellsG_set (ys.set i y) (fun z hz => by
    rcases List.mem_or_eq_of_mem_set hz with hz | rfl
    · exact h3 z hz
    · exact ⟨_, _, _, hy⟩) j x t0 t1 t2 hx] at h6
  exact ⟨own_drew h6, grown_drew (grown_trans (grown_trans (grown_trans (grown_trans (grown_trans (grown_trans hg g1) g2) g3) g4) g5) g6)⟩

set_option maxHeartbeats 1000000 in
theorem revRun_any (N : Nat) (v : Value) (gs : List Item) (w : World) (h : w.ownsRow N 48 3 v gs.length (cellsG gs)) (hn : gs.length ≤ 1099511627776) (hp : ∀ x ∈ gs, PtAt w x.1 x.2) :
    Calls Try.prog 23 #[v] w fun e w' => e = .returned (.tuple #[]) ∧ w'.ownsRow N 48 3 v gs.length (cellsG gs.reverse) ∧ w.grownBy w' v.ownBlock := by
  go_enter Try.func23, Try.ntmps23
  by_cases h0 : gs.length = 0
  · obtain rfl : gs = [] := List.eq_nil_of_length_eq_zero h0
    obtain ⟨A, cap, rfl⟩ : ∃ A cap, v = .slice A 0 cap := by
      rcases h.2 with ⟨hv, _⟩ | ⟨g, cap, cur, hv, _⟩
      · exact ⟨none, 0, hv⟩
      · exact ⟨_, _, hv⟩
    go_wp2
    go_loopw [2, 3] (fun s2 s3 wr => s2 = .int .i64 0 ∧ s3 = .int .i64 (-1) ∧ wr = w) (fun _ _ _ => 0)
    case atStart => exact ⟨rfl, rfl, rfl⟩
    case round =>
      obtain ⟨rfl, rfl, rfl⟩ := hrel
      go_wp2
      go_end0
      exact ⟨rfl, h, grown_self _ _⟩
  · obtain ⟨g, cap, rfl, _, _⟩ := h.form (by omega)
    go_wp2
    go_loopw [2, 3] (fun s2 s3 wr => ∃ (k : Nat) (ys : List Item), k + k ≤ gs.length ∧ s2 = .int .i64 k ∧ s3 = .int .i64 ((gs.length : Int) - 1 - k) ∧ Mix k gs ys ∧ wr.ownsRow N 48 3 (.slice (some ⟨g, 0, none⟩) gs.length cap) gs.length (cellsG ys) ∧ w.grownBy wr (some g)) (fun s2 _ _ => gs.length - (intOf s2).toNat)
    case atStart => exact ⟨0, gs, by omega, rfl, by simp, Mix.zero _, h, grown_self _ _⟩
    case round =>
      obtain ⟨k, ys, hk, rfl, rfl, hm, ho, hg⟩ := hrel
      by_cases hlt : (k : Int) < (gs.length : Int) - 1 - k
      · have hi : k < ys.length := by rw [hm.1]; omega
        have hj : gs.length - 1 - k < ys.length := by rw [hm.1]; omega
        have q1 := hm.mid (t := k) (Nat.le_refl _) (by omega)
        have q2 := hm.mid (t := gs.length - 1 - k) (by omega) (by omega)
        have hpy : ∀ x ∈ ys, PtAt w x.1 x.2 := fun x hx => hp x (hm.mem hx)
        have h3 : ∀ x ∈ ys, ∃ a b c, x.1.cells.toList = [a, b, c] := fun x hx => by
          obtain ⟨sA, sc, e⟩ := three (hpy x hx)
          exact ⟨_, _, _, e⟩
        obtain ⟨A1, c1, E1⟩ := three (hpy _ (List.getElem_mem hi))
        obtain ⟨A2, c2, E2⟩ := three (hpy _ (List.getElem_mem hj))
        have x1 := cellG_at ys h3 k hi 0 (by omega)
        have x2 := cellG_at ys h3 k hi 1 (by omega)
        have x3 := cellG_at ys h3 k hi 2 (by omega)
        have y1 := cellG_at ys h3 _ hj 0 (by omega)
        have y2 := cellG_at ys h3 _ hj 1 (by omega)
        have y3 := cellG_at ys h3 _ hj 2 (by omega)
        rw [E1] at x1 x2 x3
        rw [E2] at y1 y2 y3
        have HM := hid (Mix.step hm (by omega) (List.getElem?_eq_getElem hi) (List.getElem?_eq_getElem hj))
        have HE1 := hid E1
        have HE2 := hid E2
        have H3 := hid h3
        clear E1 E2 h3
        have ho3 : (cellsG ys).length = gs.length * 3 := ho.1
        generalize ys[k].2.star = p1 at *
        generalize ys[k].2.neg = p2 at *
        generalize ys[k].2.spans.length = p3 at *
        generalize ys[gs.length - 1 - k].2.star = z1 at *
        generalize ys[gs.length - 1 - k].2.neg = z2 at *
        generalize ys[gs.length - 1 - k].2.spans.length = z3 at *
        have ci1 : wr.cell? ⟨g, k * 3, none⟩ = some (.bool p1) := by rw [ho.cellAt _ (by omega)]; exact x1
        have ci2 : wr.cell? ⟨g, k * 3 + 1, none⟩ = some (.bool p2) := by rw [ho.cellAt _ (by omega)]; exact x2
        have ci3 : wr.cell? ⟨g, k * 3 + 2, none⟩ = some (.slice A1 p3 c1) := by rw [ho.cellAt _ (by omega)]; exact x3
        have cj1 : wr.cell? ⟨g, (gs.length - 1 - k) * 3, none⟩ = some (.bool z1) := by rw [ho.cellAt _ (by omega)]; exact y1
        have cj2 : wr.cell? ⟨g, (gs.length - 1 - k) * 3 + 1, none⟩ = some (.bool z2) := by rw [ho.cellAt _ (by omega)]; exact y2
        have cj3 : wr.cell? ⟨g, (gs.length - 1 - k) * 3 + 2, none⟩ = some (.slice A2 z3 c2) := by rw [ho.cellAt _ (by omega)]; exact y3
        have fi1 := ho.frozenAt (k * 3)
        have fi2 := ho.frozenAt (k * 3 + 1)
        have fi3 := ho.frozenAt (k * 3 + 2)
        have fj1 := ho.frozenAt ((gs.length - 1 - k) * 3)
        have fj2 := ho.frozenAt ((gs.length - 1 - k) * 3 + 1)
        have fj3 := ho.frozenAt ((gs.length - 1 - k) * 3 + 2)
        have e1 : ((gs.length : Int) - 1 - k).toNat = gs.length - 1 - k := by omega
        have b0 : (k : Int) < (gs.length : Int) := by omega
        have b1 : (0 : Int) ≤ (gs.length : Int) - 1 - k := by omega
        have b2 : (gs.length : Int) - 1 - k < (gs.length : Int) := by omega
        have b3 : (k : Int) ≤ (gs.length : Int) - 1 := by omega
        have HO := hid ho
        have HG := hid hg
        have HL := hid hlt
        clear hm ho hg h q1 q2 x1 x2 x3 y1 y2 y3 hp hpy ho3
        go_wp2
        go_region
        go_wp2
        obtain ⟨o1, o2⟩ := swapped3 (i := k) (j := gs.length - 1 - k) H3.out HO.out HG.out _ _ HE2.out HE1.out
        exact ⟨⟨k + 1, _, by omega, by simp, by congr 1; omega, HM.out, o1, o2⟩, by simp [intOf]; omega⟩
      · have hd := hm.done (by omega)
        subst hd
        go_wp2
        go_end0
        exact ⟨rfl, ho, hg⟩
end Go.Proofs.Ytcaenkffoilleaa
