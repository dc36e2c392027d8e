/- The iterator glob.parts: it hands out the pattern's parts, in order, each with its spans in memory. Conditions: a pattern of at most 2^40 octets. -/
import Derived.Test.YtcaenkffoilleaaGlobR
import Derived.Shelf.Abstract
import Derived.OwnWalkIn
import Derived.TacticsInMore
import Derived.LoopNIn
import Derived.LoopIn
namespace Go.Proofs.Ytcaenkffoilleaa
open Go.RowKit Go.Shelf
open Go.Lib (hid)

attribute [local go_sem] Oper.semAt_some

/-- What a round keeps. -/
def KeepR (N Bp : Nat) (W W' : World) : Prop := Below N W W' ∧ W'.heap[Bp]? = W.heap[Bp]? ∧ KeepsSp W W'
def tellR (x : Value × Pt) (W : World) : Prop := PtAt W x.1 x.2

theorem three_c0 {w : World} {b : Nat} {x y v : Value} {t : TypeId} (h : w.heap[b]? = some (.cells #[x, y, v] t (0, 0))) : w.cell? ⟨b, 0, none⟩ = some x := by simp [World.cell?, h]
theorem three_c1 {w : World} {b : Nat} {x y v : Value} {t : TypeId} (h : w.heap[b]? = some (.cells #[x, y, v] t (0, 0))) : w.cell? ⟨b, 1, none⟩ = some y := by simp [World.cell?, h]
theorem kept_new {w1 w2 : World} {O : Obj} (hb : Below (w1.alloc O).heap.size (w1.alloc O) w2) : w2.heap[w1.heap.size]? = some O := (hb.block w1.heap.size (by simp)).trans (heap_alloc_new w1 O)
theorem below_two {wr w1 w2 : World} {O : Obj} (hb1 : Below wr.heap.size wr w1) (hb2 : Below (w1.alloc O).heap.size (w1.alloc O) w2) : Below wr.heap.size wr w2 := (hb1.alloc hb1.size O).trans (hb2.mono (by have := hb1.size; simp; omega))
theorem cell_alloc {w : World} {a : Addr} {v : Value} (h : w.cell? a = some v) : ∀ O, (w.alloc O).cell? a = some v := fun O => cell_below ((Below.refl _ _).alloc (Nat.le_refl _) O) h
theorem CharsAt.take {w : World} {A : Option Addr} {l : List Ch} (h : CharsAt w A l) (n : Nat) : CharsAt w A (l.take n) := fun i hi => by
  rw [List.length_take] at hi
  obtain ⟨g, o, e, h1, h2⟩ := h i (by omega)
  exact ⟨g, o, e, by rw [List.getElem_take]; exact h1, by rw [List.getElem_take]; exact h2⟩
theorem CharsAt.belowK {N : Nat} {W0 wr : World} {A : Option Addr} {l : List Ch} (h : CharsAt W0 A l) (hB : Below N W0 wr) (_hN : N ≤ W0.heap.size) (hA : ∀ a, A = some a → a.block < N) : CharsAt wr A l := fun k hk => by
  obtain ⟨g, o, e, h1, h2⟩ := h k hk
  have hg : g < N := hA _ e
  exact ⟨g, o, e, (hB.cell (p := ⟨g, _, none⟩) hg).trans h1, (hB.cell (p := ⟨g, _, none⟩) hg).trans h2⟩

set_option maxRecDepth 100000 in
set_option maxHeartbeats 4000000 in
theorem parts1_tells (n : Nat) (hn : 1 ≤ n) (Bp N : Nat) (A : Option Addr) (cap : Nat) (l : List Ch) (w : World) (hl : l.length ≤ 1099511627776) (hcap : l.length ≤ cap) (hN : N ≤ w.heap.size)
    (hA : 0 < l.length → ∀ a, A = some a → a.block < N) (hc : w.cell? ⟨Bp, 0, none⟩ = some (.slice A l.length cap)) (hch : CharsAt w A l) :
    SeqTells Fence.wide n Try.prog 34 #[.pointer (some ⟨Bp, 0, none⟩)] Prod.fst tellR (KeepR N Bp) (fun xs => xs.map Prod.snd = partsL true l) l.length w := fun lp J W0 hW hJ hY h0 => by
  have hc0 : W0.cell? ⟨Bp, 0, none⟩ = some (.slice A l.length cap) := cell_below hW hc
  have hch0 := hch.below hW
  have hN0 : N ≤ W0.heap.size := Nat.le_trans hN hW.size
  have hBl : Bp < W0.heap.size := World.block_lt_of_cell? W0 _ hc0
  clear hc hch hW
  refine callsIn_of_wp Try.func34 rfl trivial ?_ rfl
  simp only [Try.ntmps34, List.size_toArray, List.length_cons, List.length_nil, Nat.reduceAdd, Nat.reduceSub, Array.replicate_succ, Array.replicate_zero, List.push_toArray, List.append_toArray, List.nil_append, List.cons_append]
  gi_wp2
  gi_loopw [3, 4] (fun s i wr => ∃ (k : Nat) (sets : Bool) (pre : List (Value × Pt)), k ≤ l.length ∧ s = .bool sets ∧ i = .int .i64 k ∧ J pre wr ∧ Below N W0 wr ∧ wr.heap[Bp]? = W0.heap[Bp]? ∧ pre.length ≤ k ∧ Hid (partsL true l = pre.map Prod.snd ++ partsL sets (l.drop k)))
    (fun _ i _ => l.length - (intOf i).toNat)
  case atStart => exact ⟨0, true, [], Nat.zero_le _, rfl, rfl, h0, Below.refl _ _, rfl, Nat.zero_le _, hid rfl⟩
  case round =>
    obtain ⟨k, sets, pre, hk, rfl, rfl, hJp, hB, hBp, hpl, HE⟩ := hrel
    have hcr : wr.cell? ⟨Bp, 0, none⟩ = some (.slice A l.length cap) := (World.cell?_of_block (w := W0) hBp).trans hc0
    by_cases hlt : k < l.length
    · obtain ⟨g, o, rfl, c1, c2⟩ := hch0 k hlt
      have hgN : g < N := hA (by omega) _ rfl
      have p1 : wr.cell? ⟨g, o + k * 2, none⟩ = some (.int .u8 l[k].1.toNat) := (hB.cell (p := ⟨g, _, none⟩) hgN).trans c1
      have p2 : wr.cell? ⟨g, o + k * 2 + 1, none⟩ = some (.bool l[k].2) := (hB.cell (p := ⟨g, _, none⟩) hgN).trans c2
      have cS := fun W => single_any l[k].1 l[k].2 W
      obtain ⟨a, q, hlk⟩ : ∃ a q, l[k] = (a, q) := ⟨l[k].1, l[k].2, rfl⟩
      have hbeq : quo l[k] 91 = (!q && ((a.toNat : Int) == 91)) := by rw [hlk]; exact quo_beq a q 91 (by omega)
      have hdr : l.drop k = l[k] :: l.drop (k + 1) := List.drop_eq_getElem_cons hlt
      rw [hlk] at p1 p2 cS hdr hbeq
      clear c1 c2
      cases sets
      · have HN : Hid (partsL true l = (pre.map Prod.snd ++ [singleL (a, q)]) ++ partsL false (l.drop (k + 1))) := hid (by rw [HE.out, hdr, partsL_single rfl]; simp)
        clear HE hdr hbeq hlk hch0
        gi_wp2_with (refine ⟨trivial, ?_⟩; gi_at_call 35; refine (callsIn_wide.2 (cS _)).mono ?_; rintro e w1 ⟨v, rfl, ⟨sv, rfl, sA, sc, rfl, hsp⟩, hb1⟩; have hcw := cell_alloc (cell_below hb1 hcr); have P1 := cell_alloc (cell_below hb1 p1); have P2 := cell_alloc (cell_below hb1 p2))
        have bS : Below wr.heap.size wr (w1.alloc (.cells #[.bool (singleL (a, q)).star, .bool (singleL (a, q)).neg, .slice sA (singleL (a, q)).spans.length sc] 48)) := hb1.alloc hb1.size _
        have hJy : J pre (w1.alloc (.cells #[.bool (singleL (a, q)).star, .bool (singleL (a, q)).neg, .slice sA (singleL (a, q)).spans.length sc] 48)) := hJ _ _ _ none hJp (grown_of_below bS none) (fun r e => by cases e)
        obtain ⟨fn, tmps, assign, body, hy, hR⟩ := hY pre ((.agg #[.bool (singleL (a, q)).star, .bool (singleL (a, q)).neg, .slice sA (singleL (a, q)).spans.length sc]), (singleL (a, q))) (w1.alloc (.cells #[.bool (singleL (a, q)).star, .bool (singleL (a, q)).neg, .slice sA (singleL (a, q)).spans.length sc] 48)) hJy ⟨_, rfl, (SpAt.below ⟨sA, sc, rfl, hsp⟩ ((Below.refl _ _).alloc (Nat.le_refl _) _))⟩ (by omega)
        dsimp only at hy
        rw [hy, Oper.uponIn_round]
        refine ⟨fun _ => hn, ?_⟩
        refine hR.mono ?_
        rintro e W' ⟨rfl, hJ', hk'⟩
        gi_wp2
        go_roundw
        case rel => exact ⟨k + 1, false, pre ++ [((.agg #[.bool (singleL (a, q)).star, .bool (singleL (a, q)).neg, .slice sA (singleL (a, q)).spans.length sc]), (singleL (a, q)))], by omega, rfl, by go_num, hJ', (hB.trans (bS.mono (Nat.le_trans hN0 hB.size))).trans hk'.1, hk'.2.1.trans ((bS.block Bp (Nat.lt_of_lt_of_le hBl hB.size)).trans hBp), by simp; omega, hid (by rw [HN.out]; simp)⟩
        case measure => simp [intOf]; omega
      · cases q
        · by_cases h91 : ((a.toNat : Int) == 91) = true
          · have hquo : quo (a, false) 91 = true := by rw [hbeq, h91]; rfl
            have cW := fun W (hB2 : Below wr.heap.size wr W) => width_any (some ⟨g, o + k * 2, none⟩) (cap - k) (l.drop k) W (by rw [List.length_drop]; omega) ((hch0.belowK hB hN0 (hA (by omega)) |>.below hB2).drop k)
            rw [List.length_drop] at cW
            have hwl := widthL_le (l.drop k)
            rw [List.length_drop] at hwl
            by_cases hw0 : widthL (l.drop k) = 0
            · have HN : Hid (partsL true l = (pre.map Prod.snd ++ [singleL (a, false)]) ++ partsL false (l.drop (k + 1))) := hid (by rw [HE.out, hdr, partsL_unset hquo (by rw [← hdr]; exact hw0)]; simp)
              rw [hw0] at cW
              clear HE hdr hbeq hlk hquo hwl hw0 hch0
              have hck : ¬ cap = k := by omega
              gi_wp2_with (first | (refine ⟨trivial, ?_⟩; gi_at_call 35; refine (callsIn_wide.2 (cS _)).mono ?_; rintro e w1 ⟨v, rfl, ⟨sv, rfl, sA, sc, rfl, hsp⟩, hb1⟩; have hcw := cell_alloc (cell_below hb1 hcr); have P1 := cell_alloc (cell_below hb1 p1); have P2 := cell_alloc (cell_below hb1 p2)) | (refine ⟨trivial, ?_⟩; gi_at_call 36; refine (callsIn_wide.2 (cW _ (hb1.alloc hb1.size _))).mono ?_; rintro e w2 ⟨rfl, hb2⟩; have hcw2 := cell_below hb2 (hcw _); have Q0 := kept_new hb2; have E0 := three_c0 Q0; have E1 := three_c1 Q0; have E2 := three_cell Q0; have F0 := three_free (k := 0) Q0; have F1 := three_free (k := 1) Q0; have F2 := three_free (k := 2) Q0; have P2b := cell_below hb2 (P2 _)))
              have bS : Below wr.heap.size wr w2 := (hb1.alloc hb1.size _).trans (hb2.mono (by have := hb1.size; simp; omega))
              have hJy : J pre w2 := hJ _ _ _ none hJp (grown_of_below bS none) (fun r e => by cases e)
              obtain ⟨fn, tmps, assign, body, hy, hR⟩ := hY pre ((.agg #[.bool (singleL (a, false)).star, .bool (singleL (a, false)).neg, .slice sA (singleL (a, false)).spans.length sc]), (singleL (a, false))) w2 hJy ⟨_, rfl, ((SpAt.below ⟨sA, sc, rfl, hsp⟩ ((Below.refl _ _).alloc (Nat.le_refl _) _)).below hb2)⟩ (by omega)
              dsimp only at hy
              rw [hy, Oper.uponIn_round]
              refine ⟨fun _ => hn, ?_⟩
              refine hR.mono ?_
              rintro e W' ⟨rfl, hJ', hk'⟩
              gi_wp2
              go_roundw
              case rel => exact ⟨k + 1, false, pre ++ [((.agg #[.bool (singleL (a, false)).star, .bool (singleL (a, false)).neg, .slice sA (singleL (a, false)).spans.length sc]), (singleL (a, false)))], by omega, rfl, by go_num, hJ', (hB.trans (bS.mono (Nat.le_trans hN0 hB.size))).trans hk'.1, hk'.2.1.trans ((bS.block Bp (Nat.lt_of_lt_of_le hBl hB.size)).trans hBp), by simp; omega, hid (by rw [HN.out]; simp)⟩
              case measure => simp [intOf]; omega
            · have hw3 := hwl.2 hw0
              have hw1 := hwl.1
              obtain ⟨m, hm⟩ : ∃ m, widthL (l.drop k) = m + 3 := ⟨widthL (l.drop k) - 3, by omega⟩
              have HN : Hid (partsL true l = (pre.map Prod.snd ++ [setL (((l.drop k).drop 1).take (m + 1))]) ++ partsL true (l.drop (k + (m + 3)))) := hid (by
                have h := partsL_set (c := (a, false)) (r := l.drop (k + 1)) hquo (by rw [← hdr]; exact hw0)
                rw [← hdr, hm, show m + 3 - 2 = m + 1 by omega, List.drop_drop] at h
                rw [HE.out, h]; simp)
              obtain ⟨l', hl'⟩ : ∃ l', ((l.drop k).drop 1).take (m + 1) = l' := ⟨_, rfl⟩
              have hll : l'.length = m + 1 := by rw [← hl', List.length_take, List.length_drop, List.length_drop]; omega
              have cT := fun W (hB2 : Below wr.heap.size wr W) => set_any g (o + (k + 1) * 2) (cap - (k + 1)) l' W (by omega) (by omega) (by omega) (by
                rw [← hl', List.drop_drop]; exact ((hch0.belowK hB hN0 (hA (by omega)) |>.below hB2).drop (k + 1)).take (m + 1))
              rw [hll] at cT
              rw [hl'] at HN
              rw [hm] at cW hw1
              clear HE hdr hbeq hlk hquo hwl hw0 hch0 hl' hw3 hm
              have hck : ¬ cap = k := by omega
              have hck1 : ¬ cap = k + 1 := by omega
              have e1 : m + 1 = k + (m + 2) - (k + 1) := by omega
              rw [e1] at cT
              gi_wp2_with (first | (refine ⟨trivial, ?_⟩; gi_at_call 35; refine (callsIn_wide.2 (cS _)).mono ?_; rintro e w1 ⟨v, rfl, ⟨sv, rfl, sA, sc, rfl, hsp⟩, hb1⟩; have hcw := cell_alloc (cell_below hb1 hcr); have P1 := cell_alloc (cell_below hb1 p1); have P2 := cell_alloc (cell_below hb1 p2)) | (refine ⟨trivial, ?_⟩; gi_at_call 36; refine (callsIn_wide.2 (cW _ (hb1.alloc hb1.size _))).mono ?_; rintro e w2 ⟨rfl, hb2⟩; have hcw2 := cell_below hb2 (hcw _); have Q0 := kept_new hb2; have E0 := three_c0 Q0; have E1 := three_c1 Q0; have E2 := three_cell Q0; have F0 := three_free (k := 0) Q0; have F1 := three_free (k := 1) Q0; have F2 := three_free (k := 2) Q0; have P2b := cell_below hb2 (P2 _)) | (refine ⟨trivial, ?_⟩; gi_at_call 37; refine (callsIn_wide.2 (cT _ (below_two hb1 hb2))).mono ?_; rintro e w3 ⟨v3, rfl, ⟨sv3, rfl, sA3, sc3, rfl, hsp3⟩, hb3⟩; have Q3 := (hb3.block _ (lt_of_block Q0)).trans Q0; have G0 := three_c0 Q3; have G1 := three_c1 Q3; have G2 := three_cell Q3; have L0 := three_free (k := 0) Q3; have L1 := three_free (k := 1) Q3; have L2 := three_free (k := 2) Q3))
              have bS : Below wr.heap.size wr (((w3.setCell ⟨w1.heap.size, 0, none⟩ (.bool (setL l').star)).setCell ⟨w1.heap.size, 1, none⟩ (.bool (setL l').neg)).setCell ⟨w1.heap.size, 2, none⟩ (.slice sA3 (setL l').spans.length sc3)) := ((((below_two hb1 hb2).trans (hb3.mono (below_two hb1 hb2).size)).setCell hb1.size _).setCell hb1.size _).setCell hb1.size _
              have hJy : J pre (((w3.setCell ⟨w1.heap.size, 0, none⟩ (.bool (setL l').star)).setCell ⟨w1.heap.size, 1, none⟩ (.bool (setL l').neg)).setCell ⟨w1.heap.size, 2, none⟩ (.slice sA3 (setL l').spans.length sc3)) := hJ _ _ _ none hJp (grown_of_below bS none) (fun r e => by cases e)
              obtain ⟨fn, tmps, assign, body, hy, hR⟩ := hY pre ((.agg #[.bool (setL l').star, .bool (setL l').neg, .slice sA3 (setL l').spans.length sc3]), (setL l')) (((w3.setCell ⟨w1.heap.size, 0, none⟩ (.bool (setL l').star)).setCell ⟨w1.heap.size, 1, none⟩ (.bool (setL l').neg)).setCell ⟨w1.heap.size, 2, none⟩ (.slice sA3 (setL l').spans.length sc3)) hJy ⟨_, rfl, SpAt.keep ⟨sA3, sc3, rfl, hsp3⟩ (keep3 Q3)⟩ (by omega)
              dsimp only at hy
              rw [hy, Oper.uponIn_round]
              refine ⟨fun _ => hn, ?_⟩
              refine hR.mono ?_
              rintro e W' ⟨rfl, hJ', hk'⟩
              gi_wp2
              go_roundw
              case rel => exact ⟨k + (m + 3), true, pre ++ [((.agg #[.bool (setL l').star, .bool (setL l').neg, .slice sA3 (setL l').spans.length sc3]), (setL l'))], by omega, rfl, by go_num, hJ', (hB.trans (bS.mono (Nat.le_trans hN0 hB.size))).trans hk'.1, hk'.2.1.trans ((bS.block Bp (Nat.lt_of_lt_of_le hBl hB.size)).trans hBp), by simp; omega, hid (by rw [HN.out]; simp)⟩
              case measure => simp [intOf]; omega
          · have HN : Hid (partsL true l = (pre.map Prod.snd ++ [singleL (a, false)]) ++ partsL true (l.drop (k + 1))) := hid (by rw [HE.out, hdr, partsL_single (by rw [hbeq]; simpa using h91)]; simp)
            have g1 : ((a.toNat : Int) == 91) = false := by simpa using h91
            clear HE hdr hbeq hlk h91 hch0
            gi_wp2_with (refine ⟨trivial, ?_⟩; gi_at_call 35; refine (callsIn_wide.2 (cS _)).mono ?_; rintro e w1 ⟨v, rfl, ⟨sv, rfl, sA, sc, rfl, hsp⟩, hb1⟩; have hcw := cell_alloc (cell_below hb1 hcr); have P1 := cell_alloc (cell_below hb1 p1); have P2 := cell_alloc (cell_below hb1 p2))
            have bS : Below wr.heap.size wr (w1.alloc (.cells #[.bool (singleL (a, false)).star, .bool (singleL (a, false)).neg, .slice sA (singleL (a, false)).spans.length sc] 48)) := hb1.alloc hb1.size _
            have hJy : J pre (w1.alloc (.cells #[.bool (singleL (a, false)).star, .bool (singleL (a, false)).neg, .slice sA (singleL (a, false)).spans.length sc] 48)) := hJ _ _ _ none hJp (grown_of_below bS none) (fun r e => by cases e)
            obtain ⟨fn, tmps, assign, body, hy, hR⟩ := hY pre ((.agg #[.bool (singleL (a, false)).star, .bool (singleL (a, false)).neg, .slice sA (singleL (a, false)).spans.length sc]), (singleL (a, false))) (w1.alloc (.cells #[.bool (singleL (a, false)).star, .bool (singleL (a, false)).neg, .slice sA (singleL (a, false)).spans.length sc] 48)) hJy ⟨_, rfl, (SpAt.below ⟨sA, sc, rfl, hsp⟩ ((Below.refl _ _).alloc (Nat.le_refl _) _))⟩ (by omega)
            dsimp only at hy
            rw [hy, Oper.uponIn_round]
            refine ⟨fun _ => hn, ?_⟩
            refine hR.mono ?_
            rintro e W' ⟨rfl, hJ', hk'⟩
            gi_wp2
            go_roundw
            case rel => exact ⟨k + 1, true, pre ++ [((.agg #[.bool (singleL (a, false)).star, .bool (singleL (a, false)).neg, .slice sA (singleL (a, false)).spans.length sc]), (singleL (a, false)))], by omega, rfl, by go_num, hJ', (hB.trans (bS.mono (Nat.le_trans hN0 hB.size))).trans hk'.1, hk'.2.1.trans ((bS.block Bp (Nat.lt_of_lt_of_le hBl hB.size)).trans hBp), by simp; omega, hid (by rw [HN.out]; simp)⟩
            case measure => simp [intOf]; omega
        · have HN : Hid (partsL true l = (pre.map Prod.snd ++ [singleL (a, true)]) ++ partsL true (l.drop (k + 1))) := hid (by rw [HE.out, hdr, partsL_single (by rw [hbeq]; rfl)]; simp)
          clear HE hdr hbeq hlk hch0
          gi_wp2_with (refine ⟨trivial, ?_⟩; gi_at_call 35; refine (callsIn_wide.2 (cS _)).mono ?_; rintro e w1 ⟨v, rfl, ⟨sv, rfl, sA, sc, rfl, hsp⟩, hb1⟩; have hcw := cell_alloc (cell_below hb1 hcr); have P1 := cell_alloc (cell_below hb1 p1); have P2 := cell_alloc (cell_below hb1 p2))
          have bS : Below wr.heap.size wr (w1.alloc (.cells #[.bool (singleL (a, true)).star, .bool (singleL (a, true)).neg, .slice sA (singleL (a, true)).spans.length sc] 48)) := hb1.alloc hb1.size _
          have hJy : J pre (w1.alloc (.cells #[.bool (singleL (a, true)).star, .bool (singleL (a, true)).neg, .slice sA (singleL (a, true)).spans.length sc] 48)) := hJ _ _ _ none hJp (grown_of_below bS none) (fun r e => by cases e)
          obtain ⟨fn, tmps, assign, body, hy, hR⟩ := hY pre ((.agg #[.bool (singleL (a, true)).star, .bool (singleL (a, true)).neg, .slice sA (singleL (a, true)).spans.length sc]), (singleL (a, true))) (w1.alloc (.cells #[.bool (singleL (a, true)).star, .bool (singleL (a, true)).neg, .slice sA (singleL (a, true)).spans.length sc] 48)) hJy ⟨_, rfl, (SpAt.below ⟨sA, sc, rfl, hsp⟩ ((Below.refl _ _).alloc (Nat.le_refl _) _))⟩ (by omega)
          dsimp only at hy
          rw [hy, Oper.uponIn_round]
          refine ⟨fun _ => hn, ?_⟩
          refine hR.mono ?_
          rintro e W' ⟨rfl, hJ', hk'⟩
          gi_wp2
          go_roundw
          case rel => exact ⟨k + 1, true, pre ++ [((.agg #[.bool (singleL (a, true)).star, .bool (singleL (a, true)).neg, .slice sA (singleL (a, true)).spans.length sc]), (singleL (a, true)))], by omega, rfl, by go_num, hJ', (hB.trans (bS.mono (Nat.le_trans hN0 hB.size))).trans hk'.1, hk'.2.1.trans ((bS.block Bp (Nat.lt_of_lt_of_le hBl hB.size)).trans hBp), by simp; omega, hid (by rw [HN.out]; simp)⟩
          case measure => simp [intOf]; omega
    · gi_wp2
      go_end0
      exact ⟨⟨_, rfl⟩, pre, by rw [HE.out, List.drop_of_length_le (by omega)]; simp [partsL_nil], hJp⟩
end Go.Proofs.Ytcaenkffoilleaa
