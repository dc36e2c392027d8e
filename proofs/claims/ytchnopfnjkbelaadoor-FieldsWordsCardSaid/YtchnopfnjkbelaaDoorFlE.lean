/- The program's cutter: a field ends, and an octet at which one may. Conditions: sizes. -/
import Derived.Test.YtchnopfnjkbelaaDoorFlP
import Derived.Deep.QuietTactic
import Derived.BigQuiet
namespace Go.Proofs.YtchnopfnjkbelaaDoor
open Go.RowKit
open Go.Lib (hid)

set_option maxRecDepth 100000 in
set_option maxHeartbeats 4000000 in
theorem end_any {N : Nat} {w0 : World} {G : Nat} {kv : List Value} {s : Fs} (w : World) (h : CU N w0 G kv s w) (hn : s.out.length ≤ 1099511627776) :
    Calls Tryd.prog 20 #[.pointer (some ⟨G, 0, none⟩)] w fun e w' => e = .returned (.tuple #[]) ∧ CU N w0 G kv ⟨s.out ++ [s.now], [], false, false⟩ w' ∧ PcK w w' := by
  obtain ⟨j0, hj0, hy0, hy1, hy2⟩ := info_parts info_fl2
  obtain ⟨hNG, hI, vo, vn, sp, hC, hw, hS⟩ := h
  obtain ⟨M, a, c, a2, c2, rfl, rfl, ⟨vs, hv1, hv2, hv3⟩, h4, h5, h6, h7⟩ := hS
  have n0 := hC.c0
  have n1 := hC.c1
  have hal := (Below.refl w.heap.size w).alloc (Nat.le_refl _) (.cells #[.slice a2 s.now.length c2] 40)
  have n0a := cell_below hal n0
  have n1a := cell_below hal n1
  go_enter Tryd.func20, Tryd.ntmps20
  go_wp2_with fail
  go_region_law (refine step_append_lies _ (by rfl) _ _ _ (by rfl) N 40 j0 _ 1 24 Tryd.underlying23 hj0 hy0 hy1 hy2 rfl (by omega) (.slice a s.out.length c) s.out.length vs (by rfl) ((World.ownsRow.drew hv2).alloc _) ⟨w.heap.size, 0, none⟩ 1 1 [.slice a2 s.now.length c2] (by rfl) (by rfl) (World.news_of_block (cs := #[.slice a2 s.now.length c2]) (t := 40) (fr := (0, 0)) (heap_alloc_new w _)) (by simp [Value.oneCell']) (by omega) (by unfold maxLen; omega) (by omega) (by simp; omega) (w.heap.size + 1) (by simp) ?_; intro gg cap w4 hown4 hg hat hlt4; have hC4 := (hC.below (((Below.refl _ w).drew).alloc (Nat.le_refl _) (.cells #[.slice a2 s.now.length c2] 40))).grown (hv2.drew.alloc _) (by decide) hg; have f4 := hC4.free 256; have n4 := hC4.c0)
  all_goals
    have hS4 := StF.fin_now (s := s) (s' := ⟨s.out ++ [s.now], [], false, false⟩) hv1 hv2 hv3 h4 h5 h6 h7 (((Below.refl w.heap.size w).drew).alloc (Nat.le_refl _) _) hg hown4 rfl rfl
    have hC5 := hC4.set0 (.slice (some ⟨gg, 0, none⟩) (s.out.length + 1) cap)
    have hS5 := hS4.set hC4 hNG 256 (.slice (some ⟨gg, 0, none⟩) (s.out.length + 1) cap)
    have n5 := hC5.c1
    have f5 := hC5.free 257
    have hC6 := hC5.set1 (.slice none 0 0)
    have hS6 := hS5.set hC5 hNG 257 (.slice none 0 0)
    have n6 := hC6.c2
    have f6 := hC6.free 258
    have hC7 := hC6.set2 false
    have hS7 := hS6.set hC6 hNG 258 (.bool false)
    have n7 := hC7.c3
    have f7 := hC7.free 259
    have HR := hid (show CU N w0 G kv ⟨s.out ++ [s.now], [], false, false⟩ _ from ⟨hNG, (fun _ => rfl), _, _, false, hC7.set3 false, by simp, hS7.set hC7 hNG 259 (.bool false)⟩)
    have HPk := hid ((((((PcK.below ((Below.refl w.heap.size w).drew.alloc (Nat.le_refl _) (.cells #[.slice a2 s.now.length c2] 40))).trans (.grown (hv2.drew.alloc _) (by decide) hg)).trans (.set hC4 256 (.slice (some ⟨gg, 0, none⟩) (s.out.length + 1) cap))).trans (.set hC5 257 (.slice none 0 0))).trans (.set hC6 258 (.bool false))).trans (.set hC7 259 (.bool false)))
    clear hS4 hC5 hS5 hC4 hg hown4 hat hlt4 n4 f4 h4 hv1 hv2 hv3 h7 hC hC6 hS6 hC7 hS7
    go_wp2
    go_end0
    exact ⟨rfl, HR.out, HPk.out⟩

/-- What an octet is to the octets that cut: 0 none of them, 1 a white one, 2 a mark. -/
def kindO (ifs : List UInt8) (c : UInt8) : Nat := if c ∈ ifs then (if blankO c then 1 else 2) else 0
def kindsV (ifs : List UInt8) : List Value := (List.range 256).map fun i => .int .u8 (kindO ifs i.toUInt8)
theorem kindsV_len (ifs : List UInt8) : (kindsV ifs).length = 256 := by simp [kindsV]
theorem kindsV_at (ifs : List UInt8) (c : UInt8) : (kindsV ifs)[c.toNat]? = some (.int .u8 (kindO ifs c)) := by
  have h : c.toNat < 256 := c.toNat_lt
  unfold kindsV
  rw [List.getElem?_map, List.getElem?_range h]
  simp

set_option maxRecDepth 100000 in
set_option maxHeartbeats 4000000 in
theorem cut_any {N : Nat} {w0 : World} {G : Nat} {ifs : List UInt8} {s : Fs} (x : UInt8) (q : Bool) (w : World) (h : CU N w0 G (kindsV ifs) s w) (hn : s.now.length ≤ 1099511627776) (hn2 : s.out.length ≤ 1099511627776) :
    Calls Tryd.prog 31 #[.pointer (some ⟨G, 0, none⟩), ocV (x, q)] w fun e w' => e = .returned (.tuple #[]) ∧ CU N w0 G (kindsV ifs) (stepO true ifs s (x, q)) w' ∧ PcK w w' := by
  obtain ⟨W2, hW2⟩ : ∃ W2, w.alloc (.cells #[.int .u8 x.toNat, .bool q] 50) = W2 := ⟨_, rfl⟩
  have hb2 : Below w.heap.size w W2 := by rw [← hW2]; exact (Below.refl _ _).alloc (Nat.le_refl _) _
  have hbx : W2.heap[w.heap.size]? = some (.cells #[.int .u8 x.toNat, .bool q] 50 (0, 0)) := by rw [← hW2]; exact heap_alloc_new _ _
  have x0 : W2.cell? ⟨w.heap.size, 0, none⟩ = some (.int .u8 x.toNat) := by simp [World.cell?, hbx]
  have x1 : W2.cell? ⟨w.heap.size, 1, none⟩ = some (.bool q) := by simp [World.cell?, hbx]
  have h2 := h.below hb2
  have hx : x.toNat < 256 := x.toNat_lt
  have nk : W2.cell? ⟨G, x.toNat, none⟩ = some (.int .u8 (kindO ifs x)) := by
    obtain ⟨-, -, vo, vn, sp, hC, -⟩ := h2
    exact hC.kind _ _ (kindsV_at ifs x)
  obtain ⟨K, hK⟩ : ∃ K, kindO ifs x = K := ⟨_, rfl⟩
  rw [hK] at nk
  have cP := fun W (hW : CU N w0 G (kindsV ifs) s W) => put_any x q W hW hn
  unfold ocV at cP
  have cE := fun W (hW : CU N w0 G (kindsV ifs) s W) => end_any W hW hn2
  have hKc : (q = true ∨ K = 0 ∧ q = false) ∧ stepO true ifs s (x, q) = ⟨s.out, s.now ++ [(x, q)], true, false⟩ ∨ q = false ∧ K = 1 ∧ stepO true ifs s (x, q) = (if s.opn then ⟨s.out ++ [s.now], [], false, true⟩ else s) ∨ q = false ∧ K = 2 ∧ stepO true ifs s (x, q) = (if s.opn then ⟨s.out ++ [s.now], [], false, false⟩ else if s.white then ⟨s.out, s.now, s.opn, false⟩ else ⟨s.out ++ [[]], s.now, s.opn, s.white⟩) := by
    unfold kindO at hK
    unfold stepO cutsO
    by_cases hm : x ∈ ifs
    · rw [if_pos hm] at hK
      cases q
      · cases hb : blankO x
        · rw [hb] at hK
          exact .inr (.inr ⟨rfl, hK.symm, by simp [hm]⟩)
        · rw [hb] at hK
          exact .inr (.inl ⟨rfl, hK.symm, by simp [hm]⟩)
      · exact .inl ⟨.inl rfl, by simp⟩
    · rw [if_neg hm] at hK
      exact .inl ⟨by cases q <;> simp [hK], by simp [hm]⟩
  clear hK
  go_enter Tryd.func31, Tryd.ntmps31
  unfold ocV
  have hPW := hid (fun W (hb : Below W2.heap.size W2 W) => (PcK.below hb2).trans (PcK.below hb))
  have HH := hid (fun W (hb : Below W2.heap.size W2 W) => h2.below hb)
  obtain ⟨hNG, hI, vo, vn, sp, hC, hw, hS⟩ := h2
  have p2 := hC.c2
  have p3 := hC.c3
  have p4 := hC.free 259
  rcases hKc with ⟨hq, hs⟩ | ⟨rfl, rfl, hs⟩ | ⟨rfl, rfl, hs⟩
  · rw [hs]
    clear hC hw hS p2 p3 p4 hs
    rcases hq with rfl | ⟨rfl, rfl⟩
    all_goals
      go_wp2_with fail
      go_quiet (fail)
      all_goals
        go_wp2_with (go_at_call 32; (with_reducible refine (cP _ (HH.out _ (below_drewN (Below.refl _ _) _))).mono ?_); rintro e w9 ⟨rfl, h9, hP9⟩)
        go_end0
        exact ⟨rfl, h9, (hPW.out _ (below_drewN (Below.refl _ _) _)).trans hP9⟩
  · rw [hs]
    clear hs hS
    obtain ⟨so, sn, sp1, sw⟩ := s
    simp only at *
    cases sp1
    · clear hC hw p3 p4
      go_wp2_with fail
      go_quiet (fail)
      all_goals
        go_wp2_with fail
        go_end0
        exact ⟨rfl, HH.out _ (below_drewN (Below.refl _ _) _), hPW.out _ (below_drewN (Below.refl _ _) _)⟩
    · clear hC hw p3 p4
      go_wp2_with fail
      go_quiet (fail)
      all_goals
        go_wp2_with (go_at_call 20; (with_reducible refine (cE _ (HH.out _ (below_drewN (Below.refl _ _) _))).mono ?_); rintro e w9 ⟨rfl, ⟨-, -, vo9, vn9, sp9, hC9, -, hS9⟩, hP9⟩; have HPk := hid (((hPW.out _ (below_drewN (Below.refl _ _) nq)).trans hP9).trans (PcK.set hC9 259 (.bool true))); have q3 := hC9.c3; have q4 := hC9.free 259; have HR := hid (show CU N w0 G (kindsV ifs) ⟨so ++ [sn], [], false, true⟩ (w9.setCell ⟨G, 259, none⟩ (.bool true)) from ⟨hNG, (fun _ => rfl), _, _, true, hC9.set3 true, by simp, (hS9.set hC9 hNG 259 (.bool true)).flags rfl rfl⟩); clear hC9 hS9)
        go_end0
        exact ⟨rfl, HR.out, HPk.out⟩
  · rw [hs]
    clear hs
    obtain ⟨so, sn, sp1, sw⟩ := s
    simp only at *
    cases sp1
    · cases sp
      · obtain rfl : sw = false := by simpa using hw
        obtain rfl : sn = [] := hI rfl
        clear hC hw hS
        go_wp2_with fail
        go_quiet (fail)
        all_goals
          go_wp2_with (go_at_call 20; (with_reducible refine (cE _ (HH.out _ (below_drewN (Below.refl _ _) _))).mono ?_); rintro e w9 ⟨rfl, h9, hP9⟩)
          go_end0
          exact ⟨rfl, h9, (hPW.out _ (below_drewN (Below.refl _ _) _)).trans hP9⟩
      · obtain rfl : sw = true := by simpa using hw
        have HPk := hid (fun n => (hPW.out _ (below_drewN (Below.refl _ _) n)).trans (PcK.set (hC.below (below_drewN (Below.refl _ _) n)) 259 (.bool false)))
        have HR := hid (fun n => show CU N w0 G (kindsV ifs) ⟨so, sn, false, false⟩ ((W2.drewN n).setCell ⟨G, 259, none⟩ (.bool false)) from ⟨hNG, hI, _, _, false, (hC.below (below_drewN (Below.refl _ _) n)).set3 false, by simp, ((hS.below (below_drewN (Below.refl _ _) n)).set (hC.below (below_drewN (Below.refl _ _) n)) hNG 259 (.bool false)).flags rfl rfl⟩)
        clear hC hw hS
        go_wp2_with fail
        go_quiet (fail)
        all_goals
          go_wp2_with fail
          go_end0
          exact ⟨rfl, HR.out _, HPk.out _⟩
    · clear hC hw hS
      cases sp
      all_goals
        go_wp2_with fail
        go_quiet (fail)
        go_wp2_with (go_at_call 20; (with_reducible refine (cE _ (HH.out _ (below_drewN (Below.refl _ _) _))).mono ?_); rintro e w9 ⟨rfl, h9, hP9⟩)
        go_end0
        exact ⟨rfl, h9, (hPW.out _ (below_drewN (Below.refl _ _) _)).trans hP9⟩
end Go.Proofs.YtchnopfnjkbelaaDoor
