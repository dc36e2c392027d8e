/- Contracts of lex's part at a double quote, of escaped. Conditions: sizes. -/
import Derived.Test.YtialepcdbpofkaaGreatLxI
namespace Go.Proofs.YtialepcdbpofkaaGreat
open Go.RowKit
open Go.Lib (hid)

set_option maxRecDepth 100000 in
set_option maxHeartbeats 4000000 in
/-- What stands within double quotes. -/
theorem part_double (way : Nat) (hway : way ≤ 2) (s : ByteArray) (bash : Bool) (p d n q : Nat) (b bq : Bg) (hs : s.size ≤ 281474976710656) (hp : p < s.size) (hc : s[p] = 34) (hrun : Run 3 s bash d n (p + 1) Bg.new (.ok (q, bq))) (hsm : bq.ps.length ≤ 549755813888) (hq : q ≤ 281474976710656)
    (hsz : ∀ k (hk : k < (quotedL (closeB bq).ps).length), (addB b ((quotedL (closeB bq).ps).take k)).ps.length + 2 ≤ 549755813888 ∧ (addB b ((quotedL (closeB bq).ps).take k)).tx.length + (quotedL (closeB bq).ps)[k].text.length ≤ 140737488355328)
    (hlc : (quotedL (closeB bq).ps).length ≤ 1099511627776) : StepOk way s bash d p (q + 1) b (addB b (quotedL (closeB bq).ps)) := by
  intro N G B F w hB hr hbag
  have hw3 : (way : Int) < 3 := by omega
  have hw4 : ((way : Int) == 4) = false := by simp; omega
  have hpi : (p : Int) < (s.size : Int) := by omega
  have hp0 : (0 : Int) ≤ (p : Int) := by omega
  have hsi : (s.size : Int) ≤ 281474976710656 := by omega
  have c0 := hr.c0; have c1 := hr.c1
  have f1 := hr.free 1
  have hge : ∀ k, F k → N ≤ k ∧ k < w.heap.size := hbag.ge
  have cQ : ∀ n', Calls Tryz.prog 34 #[.pointer (some ⟨B, 0, none⟩), .int .i64 3] ((w.drewN n').setCell ⟨B, 1, none⟩ (.int .i64 ((p : Int) + 1))) (LPost B s bash d ((w.drewN n').setCell ⟨B, 1, none⟩ (.int .i64 ((p : Int) + 1))) (.ok (q, quotedL (closeB bq).ps))) := fun n' =>
    quotes_run 3 (by omega) s hs bash d n (p + 1) _ hrun (fun q' b' h => by cases h; exact hsm) B _ (by
      have := hr.at_ (p + 1)
      rw [show ((p + 1 : Nat) : Int) = (p : Int) + 1 by omega] at this
      exact this)
  generalize quotedL (closeB bq).ps = l at *
  have hqi : (0 : Int) ≤ (q : Int) := by omega
  have HT : ∀ W n' (A : Option Addr) (c : Nat), Kept B ((w.drewN n').setCell ⟨B, 1, none⟩ (.int .i64 ((p : Int) + 1))) W → LRd W B s bash q d → W.ownsRow ((w.drewN n').setCell ⟨B, 1, none⟩ (.int .i64 ((p : Int) + 1))).heap.size 34 10 (.slice A l.length c) l.length (rowPt l) →
      Calls Tryz.prog 50 #[.pointer (some ⟨G, 0, none⟩), .slice A l.length c] W fun e w' => e = .returned (.tuple #[]) ∧ LRd w' B s bash q d ∧ PTo N G B F s bash (q + 1) d (addB b l) w (w'.setCell ⟨B, 1, none⟩ (.int .i64 ((q : Int) + 1))) := fun W n' A c hk hr1 ho => by
    have hk1 : KF (fun k => k = B) w W := (((KF.refl (fun k => k = B) w).drewN n').set (.inl rfl) _ _).trans (KF.of_kept hk) (fun g hg => .inl hg)
    have hszw : ((w.drewN n').setCell ⟨B, 1, none⟩ (.int .i64 ((p : Int) + 1))).heap.size = w.heap.size := by show (w.setCell ⟨B, 1, none⟩ (.int .i64 ((p : Int) + 1))).heap.size = _; simp [World.setCell]
    rw [hszw] at ho
    have hb1 : BagAt N G F b W := hbag.kept hk1 (fun k hk => by have := (hge k hk).1; omega)
    refine (add_any N G F b A c l W hb1 (own_src ho rfl) (fun g o e => ?_) hlc hsz).mono ?_
    · subst e
      have hg := (ho.lt g rfl).1
      obtain ⟨cur, hcur⟩ := own_type (g := g) ho rfl
      exact ⟨fun hf => by have := (hge g hf).2; omega, lt_of_block hcur⟩
    · rintro e w' ⟨rfl, hto⟩
      obtain ⟨hr3, hp3⟩ := hto.step (p := q) (p' := q + 1) (w := W) hr1 hB (fun k hk => (hge k hk).1)
      refine ⟨rfl, hr3, ?_⟩
      rw [show (((q + 1 : Nat)) : Int) = (q : Int) + 1 by omega] at hp3
      obtain ⟨h1, h2, F1, h3, h4⟩ := hp3
      refine ⟨(hk1.mono (G := fun k => F k ∨ k = B) (fun g _ hg => .inr hg)).trans h1 (fun g hg => .inl hg), h2, F1, fun g hg => ?_, h4⟩
      rcases h3 g hg with h | h
      · exact .inl h
      · exact .inr (Nat.le_trans hk1.size h)
  have HT := hid HT
  clear hrun hsm hsz hlc hbag hr hge
  go_enter Tryz.func37, Tryz.ntmps37
  go_wp2_with fail
  go_quiet (fail)
  all_goals
    go_wp2_with (first
      | (go_at_call 34; (with_reducible refine (cQ _).mono ?_); rintro e w1 ⟨hk1, hr1, vp, rfl, ho⟩; obtain ⟨ap, cp, rfl, -⟩ := own_form ho; have cA := HT.out w1 _ ap cp hk1 hr1 ho)
      | (go_at_call 50; (with_reducible refine cA.mono ?_); rintro e w2 ⟨rfl, hr2, hpt⟩; have k1 := hr2.c1; have kf := hr2.free 1))
    go_end0
    exact ⟨rfl, hpt⟩

set_option maxRecDepth 100000 in
set_option maxHeartbeats 4000000 in
theorem part_double_err (way : Nat) (hway : way ≤ 2) (s : ByteArray) (bash : Bool) (p d n : Nat) (b : Bg) (e0 : Fe) (q : Nat) (hs : s.size ≤ 281474976710656) (hp : p < s.size) (hc : s[p] = 34) (hrun : Run 3 s bash d n (p + 1) Bg.new (.error (e0, q))) : StepErr way s bash d p b e0 q := by
  intro N G B F w hB hr hbag
  have hw3 : (way : Int) < 3 := by omega
  have hw4 : ((way : Int) == 4) = false := by simp; omega
  have hpi : (p : Int) < (s.size : Int) := by omega
  have hp0 : (0 : Int) ≤ (p : Int) := by omega
  have hsi : (s.size : Int) ≤ 281474976710656 := by omega
  have c0 := hr.c0; have c1 := hr.c1
  have f1 := hr.free 1
  have cQ : ∀ n', Calls Tryz.prog 34 #[.pointer (some ⟨B, 0, none⟩), .int .i64 3] ((w.drewN n').setCell ⟨B, 1, none⟩ (.int .i64 ((p : Int) + 1))) (LPost B s bash d ((w.drewN n').setCell ⟨B, 1, none⟩ (.int .i64 ((p : Int) + 1))) (.error (e0, q))) := fun n' =>
    quotes_run 3 (by omega) s hs bash d n (p + 1) _ hrun (fun q' b' h => by cases h) B _ (by
      have := hr.at_ (p + 1)
      rw [show ((p + 1 : Nat) : Int) = (p : Int) + 1 by omega] at this
      exact this)
  clear hrun hbag hr
  go_enter Tryz.func37, Tryz.ntmps37
  go_wp2_with fail
  go_quiet (fail)
  all_goals
    go_wp2_with (go_at_call 34; (with_reducible refine (cQ _).mono ?_); rintro e w1 ⟨hk1, rfl⟩)
    exact ⟨rfl, rfl, (((KF.refl (fun k => F k ∨ k = B) w).drewN _).set (.inl (.inr rfl)) _ _).trans (KF.of_kept hk1) (fun g hg => .inl (.inr hg))⟩
end Go.Proofs.YtialepcdbpofkaaGreat
