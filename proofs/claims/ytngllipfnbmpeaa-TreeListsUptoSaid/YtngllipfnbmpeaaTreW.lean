
/- Contracts of the reference's with and fits. Conditions: a tree that may be. -/
import Derived.Test.YtngllipfnbmpeaaTreG
namespace Go.Proofs.Ytngllipfnbmpeaa
open Go.RowKit
open Go.Lib (hid)

def cellsN (x : ND) : List Value := [encS x.p, .bool x.d, encS x.x]
abbrev encN (x : ND) : Value := .agg #[encS x.p, .bool x.d, encS x.x]
theorem info_node : (Try.prog.info? 53).map (fun i => (i.zero, i.size, i.bytes)) = some (some (.agg #[.string .empty, .bool false, .string .empty]), 3, 40) := by kernel_rfl
theorem flat_getN : ∀ (ys : List ND) (k : Nat) (hk : k < ys.length) (j : Nat), j < 3 → (ys.flatMap cellsN)[k * 3 + j]? = (cellsN ys[k])[j]?
  | y :: r, 0, _, j, hj => by
    rw [List.flatMap_cons, Nat.zero_mul, Nat.zero_add, List.getElem?_append_left (by simpa [cellsN] using hj)]
    rfl
  | y :: r, k + 1, hk, j, hj => by
    rw [List.flatMap_cons, List.getElem?_append_right (by simp [cellsN]; omega)]
    have e : (k + 1) * 3 + j - (cellsN y).length = k * 3 + j := by simp [cellsN]; omega
    rw [e, flat_getN r k (by simpa using hk) j hj]
    rfl
/-- A row of nodes of the call's own. -/
def OwnN (w : World) (N : Nat) (a : Option Addr) (c : Nat) (ys : List ND) : Prop := w.ownsRow N 53 3 (.slice a ys.length c) ys.length (ys.flatMap cellsN)
theorem OwnN.nodes {w : World} {N : Nat} {a : Option Addr} {c : Nat} {ys : List ND} (h : OwnN w N a c ys) : NodesP w (fun g => N ≤ g) a ys := fun k hk => by
  rcases h.2 with ⟨hv, h0⟩ | ⟨g, cap, cur, hv, hN, _⟩
  · omega
  · cases hv
    have hc : ∀ j, j < 3 → ∀ u, (cellsN ys[k])[j]? = some u → w.cell? ⟨g, 0 + k * 3 + j, none⟩ = some u := fun j hj u hu => by
      have := World.ownsRow.cells (g := g) h rfl (k * 3 + j) u (by rw [flat_getN ys k hk j hj]; exact hu)
      rw [add_at] at this
      rw [show 0 + k * 3 + j = 0 + (k * 3 + j) by omega]
      exact this
    exact ⟨g, 0, rfl, hN, by simpa using hc 0 (by omega) _ rfl, hc 1 (by omega) _ rfl, hc 2 (by omega) _ rfl⟩
theorem OwnN.kept {w w' : World} {N : Nat} {a : Option Addr} {c : Nat} {ys : List ND} (h : OwnN w N a c ys) (hb : Below w.heap.size w w') : OwnN w' N a c ys := by
  refine own_keptE h fun g hg => ?_
  exact hb.block g (h.lt g hg).2
theorem OwnN.next {w : World} {N g c : Nat} {ys : List ND} {y : ND} (h : w.ownsRow N 53 3 (.slice (some ⟨g, 0, none⟩) (ys.length + 1) c) (ys.length + 1) (ys.flatMap cellsN ++ cellsN y)) : OwnN w N (some ⟨g, 0, none⟩) c (ys ++ [y]) := by
  unfold OwnN
  rw [List.length_append, List.flatMap_append]
  simpa using h

/-- One round of the reference's with. -/
def stepW (n : ND) (q : List ND × Bool) (x : ND) : List ND × Bool :=
  if q.2 = false ∧ ¬ x.p < n.p then (if x.p = n.p then (q.1 ++ [n], true) else (q.1 ++ [n] ++ [x], true)) else if x.p = n.p then q else (q.1 ++ [x], q.2)
def goneW (n : ND) (t : List ND) (k : Nat) : List ND × Bool := (t.take k).foldl (stepW n) ([], false)
def withL (t : List ND) (n : ND) : List ND := (goneW n t t.length).1 ++ if (goneW n t t.length).2 then [] else [n]
theorem goneW_succ (n : ND) (t : List ND) (k : Nat) (h : k < t.length) : goneW n t (k + 1) = stepW n (goneW n t k) t[k] := by
  unfold goneW
  rw [List.take_succ_eq_append_getElem h, List.foldl_append]
  rfl
theorem goneW_len (n : ND) (t : List ND) : ∀ k, k ≤ t.length → (goneW n t k).1.length ≤ 2 * k
  | 0, _ => by simp [goneW]
  | k + 1, h => by
    have ih := goneW_len n t k (by omega)
    rw [goneW_succ n t k (by omega)]
    unfold stepW
    split
    · split
      · simp; omega
      · simp; omega
    · split
      · omega
      · simp; omega
theorem own_drew {w : World} {N m n : Nat} {a : Option Addr} {c : Nat} {ys : List ND} (h : OwnN w N a c ys) : OwnN ((w.drewN n).drewN m) N a c ys := h
theorem own_down {w : World} {N M e k n : Nat} {v : Value} {xs : List Value} (h : w.ownsRow N e k v n xs) (hb : M ≤ N) : w.ownsRow M e k v n xs := by
  refine ⟨h.1, ?_⟩
  rcases h.2 with h0 | ⟨g, cap, cur, hv, h1, h2, h3⟩
  · exact .inl h0
  · exact .inr ⟨g, cap, cur, hv, by omega, h2, h3⟩
/-- The cells of a variable of type Node. -/
def Box3 (W : World) (g : Nat) (a b c : Value) : Prop := W.heap[g]? = some (.cells #[a, b, c] 53 (0, 0))
theorem Box3.a0 {W : World} {g : Nat} {a b c : Value} (h : Box3 W g a b c) : W.cell? ⟨g, 0, none⟩ = some a := by unfold Box3 at h; simp [World.cell?, h]
theorem Box3.a1 {W : World} {g : Nat} {a b c : Value} (h : Box3 W g a b c) : W.cell? ⟨g, 1, none⟩ = some b := by unfold Box3 at h; simp [World.cell?, h]
theorem Box3.a2 {W : World} {g : Nat} {a b c : Value} (h : Box3 W g a b c) : W.cell? ⟨g, 2, none⟩ = some c := by unfold Box3 at h; simp [World.cell?, h]
theorem Box3.lt {W : World} {g : Nat} {a b c : Value} (h : Box3 W g a b c) : g < W.heap.size := by
  unfold Box3 at h
  exact lt_of_block h

set_option maxRecDepth 100000 in
set_option maxHeartbeats 8000000 in
theorem rwith_any (A : Option Addr) (c : Nat) (t : List ND) (n : ND) (w : World) (hT : NodesP w (fun _ => True) A t) (hl : t.length ≤ 256) :
    Calls Try.prog 45 #[.slice A t.length c, encN n] w fun e w' => ∃ a' c', e = .returned (.slice a' (withL t n).length c') ∧ OwnN w' w.heap.size a' c' (withL t n) ∧ Below w.heap.size w w' := by
  obtain ⟨i0, hi, hz0, hz1, hz2⟩ := info_parts info_node
  have hal : Below w.heap.size w (w.alloc (.cells #[.string ⟨n.p.toArray⟩, .bool n.d, .string ⟨n.x.toArray⟩] 53)) := (Below.refl _ _).alloc (Nat.le_refl _) _
  have hX : Box3 (w.alloc (.cells #[.string ⟨n.p.toArray⟩, .bool n.d, .string ⟨n.x.toArray⟩] 53)) w.heap.size (.string ⟨n.p.toArray⟩) (.bool n.d) (.string ⟨n.x.toArray⟩) := heap_alloc_new _ _
  have hx0 := hX.lt
  go_enter Try.func45, Try.ntmps45
  go_wp2
  generalize w.alloc (.cells #[.string ⟨n.p.toArray⟩, .bool n.d, .string ⟨n.x.toArray⟩] 53) = w0 at *
  have hsz := hal.size
  have hT0 := hT.below hal
  clear hT
  go_loopw [5, 6, 7] (fun v d i wr => ∃ (k : Nat) (ys : List ND) (a : Option Addr) (c' : Nat) (b : Bool), k ≤ t.length ∧ i = .int .i64 k ∧ v = .slice a ys.length c' ∧ d = .bool b ∧ Hid ((ys, b) = goneW n t k) ∧ OwnN wr w0.heap.size a c' ys ∧ Below w0.heap.size w0 wr) (fun _ _ i _ => t.length - (intOf i).toNat)
  case atStart => exact ⟨0, [], none, 0, false, Nat.zero_le _, rfl, rfl, rfl, hid rfl, World.ownsRow_nil _ _ _ _, Below.refl _ _⟩
  case round =>
    obtain ⟨k, ys, a, c', b, hk, rfl, rfl, rfl, HG, hR, hB⟩ := hrel
    have hyl : ys.length ≤ 2 * k := by have := goneW_len n t k hk; rw [← HG.out] at this; exact this
    have hXr : Box3 wr w.heap.size _ _ _ := (hB.block w.heap.size hx0).trans hX
    have x0 := hXr.a0; have x1 := hXr.a1; have x2 := hXr.a2
    have hs0 := hB.size
    by_cases hlt : k < t.length
    · have h1 := hT0.below hB
      obtain ⟨gt, ot, rfl, -, a0, a1, a2⟩ := h1 k hlt
      have HS := hid (goneW_succ n t k hlt)
      rw [← HG.out] at HS
      obtain ⟨x, hx⟩ : ∃ x, t[k] = x := ⟨_, rfl⟩
      rw [hx] at a0 a1 a2 HS
      replace hx := hid hx
      have HB := hid hB
      clear h1 hXr hB HG
      have hR : wr.ownsRow w0.heap.size 53 3 (.slice a ys.length c') ys.length (ys.flatMap cellsN) := hR
      by_cases hnm : x.p = n.p
      · have q1 : (x.p == n.p) = true := by simpa using hnm
        have q2 : Op.bytesLess x.p n.p = false := by rw [bytesLess_eq, hnm]; simp
        cases b
        · have HS2 : Hid ((ys ++ [n], true) = goneW n t (k + 1)) := hid (by rw [HS.out]; unfold stepW; rw [if_pos ⟨rfl, by rw [hnm]; exact List.lt_irrefl _⟩, if_pos hnm])
          clear HS hnm
          go_wp2_with fail
          go_quiet (fail)
          go_wp2_with (at_builtin; refine wpList_append_own _ rfl _ _ 22 rfl w0.heap.size 53 i0 _ 3 40 Try.underlying22 hi hz0 hz1 hz2 rfl (by decide) _ _ _ rfl (World.ownsRow.alloc (w := wr.drewN _) hR _) ⟨wr.heap.size, 0, none⟩ 1 1 (cellsN n) rfl rfl ?c1 ?c2 ?c3 ?c4 ?c5 ?_)
          case c1 => first | exact World.news_of_block (heap_alloc_new (wr.drewN _) _) | exact fun j u h => h
          case c2 => simp [cellsN, Value.oneCell']
          case c3 => unfold maxLen; first | omega | (simp; omega) | (have := hzl.out; omega) | (have := hzl.out; simp; omega)
          case c4 => first | omega | (have := hzl.out; omega)
          case c5 => first | omega | (simp; omega) | (have := hzl.out; omega) | (have := hzl.out; simp; omega)
          intro v1 w1 hown1 hg1 _
          obtain ⟨g1, c1, rfl⟩ := ownsRow_succ hown1
          have hB1 : Below w0.heap.size w0 w1 := ((below_drewN HB.out _).alloc (w := wr.drewN _) (by first | exact hs0 | (simp; omega)) _).grown hg1 (by simp; omega) (fun j e => (hR.lt j e).1)
          have HF1 := hid (And.intro (OwnN.next hown1) hB1)
          have hR1 := OwnN.next hown1
          clear hB1 hown1 hg1
          have hXa : Box3 w1 w.heap.size _ _ _ := (HF1.out.2.block w.heap.size hx0).trans hX
          have y0 := hXa.a0
          have hTa := hT0.below HF1.out.2
          obtain ⟨g9, o9, e9, -, b0, b1, b2⟩ := hTa k hlt
          cases e9
          rw [hx.out] at b0 b1 b2
          clear hXa hTa
          clear hR hR1 x0 x1 x2 a0 a1 a2 hT0
          go_wp2_with fail
          go_quiet (fail)
          go_wp2_with fail
          go_roundw
          case rel => exact ⟨k + 1, ys ++ [n], some ⟨g1, 0, none⟩, c1, true, by omega, by go_num, by simp, rfl, HS2, HF1.out.1, below_drewN HF1.out.2 _⟩
          case measure => simp [intOf]; omega
        · have HS2 : Hid ((ys, true) = goneW n t (k + 1)) := hid (by rw [HS.out]; unfold stepW; rw [if_neg (by rintro ⟨h, _⟩; cases h), if_pos hnm])
          clear HS hnm
          go_wp2_with fail
          go_quiet (fail)
          go_wp2_with fail
          go_quiet (fail)
          go_wp2_with fail
          go_roundw
          case rel => exact ⟨k + 1, ys, a, c', true, by omega, by go_num, rfl, rfl, HS2, hR, below_drewN HB.out _⟩
          case measure => simp [intOf]; omega
      have q1 : (x.p == n.p) = false := by simpa using hnm
      by_cases hbl : b = false ∧ ¬ x.p < n.p
      · obtain ⟨rfl, hge⟩ := hbl
        have q2 : Op.bytesLess x.p n.p = false := by rw [bytesLess_eq]; simpa using hge
        have HS2 : Hid ((ys ++ [n] ++ [x], true) = goneW n t (k + 1)) := hid (by rw [HS.out]; unfold stepW; rw [if_pos ⟨rfl, hge⟩, if_neg hnm])
        clear HS hnm hge
        go_wp2_with fail
        go_quiet (fail)
        go_wp2_with (at_builtin; refine wpList_append_own _ rfl _ _ 22 rfl w0.heap.size 53 i0 _ 3 40 Try.underlying22 hi hz0 hz1 hz2 rfl (by decide) _ _ _ rfl (World.ownsRow.alloc (w := wr.drewN _) hR _) ⟨wr.heap.size, 0, none⟩ 1 1 (cellsN n) rfl rfl ?c1 ?c2 ?c3 ?c4 ?c5 ?_)
        case c1 => first | exact World.news_of_block (heap_alloc_new (wr.drewN _) _) | exact fun j u h => h
        case c2 => simp [cellsN, Value.oneCell']
        case c3 => unfold maxLen; first | omega | (simp; omega) | (have := hzl.out; omega) | (have := hzl.out; simp; omega)
        case c4 => first | omega | (have := hzl.out; omega)
        case c5 => first | omega | (simp; omega) | (have := hzl.out; omega) | (have := hzl.out; simp; omega)
        intro v1 w1 hown1 hg1 _
        obtain ⟨g1, c1, rfl⟩ := ownsRow_succ hown1
        have hB1 : Below w0.heap.size w0 w1 := ((below_drewN HB.out _).alloc (w := wr.drewN _) (by first | exact hs0 | (simp; omega)) _).grown hg1 (by simp; omega) (fun j e => (hR.lt j e).1)
        have HF1 := hid (And.intro (OwnN.next hown1) hB1)
        have hR1 := OwnN.next hown1
        clear hB1 hown1 hg1
        have hXa : Box3 w1 w.heap.size _ _ _ := (HF1.out.2.block w.heap.size hx0).trans hX
        have y0 := hXa.a0
        have hTa := hT0.below HF1.out.2
        obtain ⟨g9, o9, e9, -, b0, b1, b2⟩ := hTa k hlt
        cases e9
        rw [hx.out] at b0 b1 b2
        clear hXa hTa
        have hs1 := HF1.out.2.size
        have hR1 : w1.ownsRow w0.heap.size 53 3 (.slice (some ⟨g1, 0, none⟩) (ys ++ [n]).length c1) (ys ++ [n]).length ((ys ++ [n]).flatMap cellsN) := hR1
        rw [show ys.length + 1 = (ys ++ [n]).length by simp]
        obtain ⟨zs, hzs⟩ : ∃ zs, ys ++ [n] = zs := ⟨_, rfl⟩
        have hzl : zs.length = ys.length + 1 := by rw [← hzs]; simp
        rw [hzs] at hR1 HS2
        rw [hzs]
        replace hzl := hid hzl
        clear hR x0 x1 x2 a0 a1 a2 hT0
        go_wp2_with fail
        go_quiet (fail)
        go_wp2_with (at_builtin; refine wpList_append_own _ rfl _ _ 22 rfl w0.heap.size 53 i0 _ 3 40 Try.underlying22 hi hz0 hz1 hz2 rfl (by decide) _ _ _ rfl (World.ownsRow.alloc (w := w1.drewN _) hR1 _) ⟨w1.heap.size, 0, none⟩ 1 1 (cellsN x) rfl rfl ?c1 ?c2 ?c3 ?c4 ?c5 ?_)
        case c1 => first | exact World.news_of_block (heap_alloc_new (w1.drewN _) _) | exact fun j u h => h
        case c2 => simp [cellsN, Value.oneCell']
        case c3 => unfold maxLen; first | omega | (simp; omega) | (have := hzl.out; omega) | (have := hzl.out; simp; omega)
        case c4 => first | omega | (have := hzl.out; omega)
        case c5 => first | omega | (simp; omega) | (have := hzl.out; omega) | (have := hzl.out; simp; omega)
        intro v2 w2 hown2 hg2 _
        obtain ⟨g2, c2, rfl⟩ := ownsRow_succ hown2
        have hB2 : Below w0.heap.size w0 w2 := ((below_drewN HF1.out.2 _).alloc (w := w1.drewN _) (by first | exact hs1 | (simp; omega)) _).grown hg2 (by simp; omega) (fun j e => (hR1.lt j e).1)
        have HF2 := hid (And.intro (OwnN.next hown2) hB2)
        have hR2 := OwnN.next hown2
        clear hB2 hown2 hg2
        clear hR1 hR2
        go_wp2_with fail
        go_roundw
        case rel => exact ⟨k + 1, zs ++ [x], some ⟨g2, 0, none⟩, c2, true, by omega, by go_num, by simp, rfl, HS2, HF2.out.1, HF2.out.2⟩
        case measure => simp [intOf]; omega
      · have HS2 : Hid ((ys ++ [x], b) = goneW n t (k + 1)) := hid (by rw [HS.out]; unfold stepW; rw [if_neg hbl, if_neg hnm])
        have q2 : b = true ∨ (b = false ∧ Op.bytesLess x.p n.p = true) := by
          cases b
          · exact .inr ⟨rfl, by rw [bytesLess_eq]; simpa using fun h => hbl ⟨rfl, h⟩⟩
          · exact .inl rfl
        clear HS hnm hbl
        rcases q2 with rfl | ⟨rfl, q2⟩
        all_goals
          go_wp2_with fail
          go_quiet (fail)
          go_wp2_with fail
          go_quiet (fail)
          go_wp2_with (at_builtin; refine wpList_append_own _ rfl _ _ 22 rfl w0.heap.size 53 i0 _ 3 40 Try.underlying22 hi hz0 hz1 hz2 rfl (by decide) _ _ _ rfl (World.ownsRow.alloc (w := wr.drewN _) hR _) ⟨wr.heap.size, 0, none⟩ 1 1 (cellsN x) rfl rfl ?c1 ?c2 ?c3 ?c4 ?c5 ?_)
          case c1 => first | exact World.news_of_block (heap_alloc_new (wr.drewN _) _) | exact fun j u h => h
          case c2 => simp [cellsN, Value.oneCell']
          case c3 => unfold maxLen; first | omega | (simp; omega) | (have := hzl.out; omega) | (have := hzl.out; simp; omega)
          case c4 => first | omega | (have := hzl.out; omega)
          case c5 => first | omega | (simp; omega) | (have := hzl.out; omega) | (have := hzl.out; simp; omega)
          intro v1 w1 hown1 hg1 _
          obtain ⟨g1, c1, rfl⟩ := ownsRow_succ hown1
          have hB1 : Below w0.heap.size w0 w1 := ((below_drewN HB.out _).alloc (w := wr.drewN _) (by first | exact hs0 | (simp; omega)) _).grown hg1 (by simp; omega) (fun j e => (hR.lt j e).1)
          have HF1 := hid (And.intro (OwnN.next hown1) hB1)
          have hR1 := OwnN.next hown1
          clear hB1 hown1 hg1
          clear hR hR1
          go_wp2_with fail
          go_roundw
          case rel => exact ⟨k + 1, ys ++ [x], some ⟨g1, 0, none⟩, c1, _, by omega, by go_num, by simp, rfl, HS2, HF1.out.1, HF1.out.2⟩
          case measure => simp [intOf]; omega
    · obtain rfl : k = t.length := by omega
      have hR : wr.ownsRow w0.heap.size 53 3 (.slice a ys.length c') ys.length (ys.flatMap cellsN) := hR
      have HAL := hid hal
      have HB := hid hB
      have HSZ := hid hsz
      clear hXr hT0 hal hB
      cases b
      · have HW : Hid (ys ++ [n] = withL t n) := hid (by unfold withL; rw [← HG.out]; rfl)
        clear HG
        go_wp2_with (at_builtin; refine wpList_append_own _ rfl _ _ 22 rfl w0.heap.size 53 i0 _ 3 40 Try.underlying22 hi hz0 hz1 hz2 rfl (by decide) _ _ _ rfl (World.ownsRow.alloc (w := wr) hR _) ⟨wr.heap.size, 0, none⟩ 1 1 (cellsN n) rfl rfl ?c1 ?c2 ?c3 ?c4 ?c5 ?_)
        case c1 => first | exact World.news_of_block (heap_alloc_new (wr) _) | exact fun j u h => h
        case c2 => simp [cellsN, Value.oneCell']
        case c3 => unfold maxLen; first | omega | (simp; omega) | (have := hzl.out; omega) | (have := hzl.out; simp; omega)
        case c4 => first | omega | (have := hzl.out; omega)
        case c5 => first | omega | (simp; omega) | (have := hzl.out; omega) | (have := hzl.out; simp; omega)
        intro v1 w1 hown1 hg1 _
        obtain ⟨g1, c1, rfl⟩ := ownsRow_succ hown1
        have hB1 : Below w0.heap.size w0 w1 := (HB.out.alloc (w := wr) (by first | exact hs0 | (simp; omega)) _).grown hg1 (by simp; omega) (fun j e => (hR.lt j e).1)
        have HF1 := hid (And.intro (OwnN.next hown1) hB1)
        have hR1 := OwnN.next hown1
        clear hB1 hown1 hg1
        go_wp2_with fail
        go_ret
        exact ⟨some ⟨g1, 0, none⟩, c1, by rw [← HW.out]; simp, by rw [← HW.out]; exact own_down HF1.out.1 HSZ.out, HAL.out.trans (HF1.out.2.mono HAL.out.size)⟩
      · have HW : Hid (ys = withL t n) := hid (by unfold withL; rw [← HG.out]; simp)
        clear HG x0 x1 x2
        go_wp2_with fail
        go_ret
        exact ⟨a, c', by rw [HW.out]; rfl, by rw [← HW.out]; exact own_down hR HSZ.out, HAL.out.trans (HB.out.mono HAL.out.size)⟩
end Go.Proofs.Ytngllipfnbmpeaa
