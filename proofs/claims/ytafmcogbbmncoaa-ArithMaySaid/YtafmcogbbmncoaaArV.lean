/- What reading an expression promises in memory; contract of arith's within, whatever it reads. No conditions but sizes. -/
import Derived.Test.YtafmcogbbmncoaaArS
import Derived.Laws.EntriesVeiled
namespace Go.Proofs.Ytafmcogbbmncoaa
open Go.RowKit
open Go.Lib (hid)

/-- What reading leaves: the expression and the token behind it, or the fault. -/
def RdPost (B : Nat) (s : ByteArray) (bash : Bool) (d : Nat) (w : World) : Except (Int × Nat) (T × St) → Ending → World → Prop
  | .ok (x, st'), e, w' => Kept B w w' ∧ (∃ A c, e = .returned (.agg #[c0 x, c1 x, c2 x, .slice A (lenT x) c]) ∧ Tree w' (fun g => w.heap.size ≤ g) A c x) ∧ Rd w' B s bash st' d ∧ Good s.size st'
  | .error (e0, p), e, w' => Kept B w w' ∧ e = .panicked [faultV e0 p]

theorem Tree.drew {w : World} {P : Nat → Prop} {A : Option Addr} {c : Nat} {t : T} (h : Tree w P A c t) : Tree w.drew P A c t := Tree.frame (w := w) (w' := w.drew) (fun _ _ hp => ⟨hp, rfl⟩) t h
/-- The same, where older blocks may bear parts of the expression, too. -/
def RdPostO (old : Nat → Prop) (B : Nat) (s : ByteArray) (bash : Bool) (d : Nat) (w : World) : Except (Int × Nat) (T × St) → Ending → World → Prop
  | .ok (x, st'), e, w' => Kept B w w' ∧ (∃ A c, e = .returned (.agg #[c0 x, c1 x, c2 x, .slice A (lenT x) c]) ∧ Tree w' (fun g => old g ∨ w.heap.size ≤ g) A c x) ∧ Rd w' B s bash st' d ∧ Good s.size st'
  | .error (e0, p), e, w' => Kept B w w' ∧ e = .panicked [faultV e0 p]
theorem RdPost.old {old : Nat → Prop} {B : Nat} {s : ByteArray} {bash : Bool} {d : Nat} {w w' : World} {e : Ending} : ∀ {q : Except (Int × Nat) (T × St)}, RdPost B s bash d w q e w' → RdPostO old B s bash d w q e w'
  | .ok (_, _), ⟨h1, ⟨A, c, h2, h3⟩, h4⟩ => ⟨h1, ⟨A, c, h2, h3.weaken fun _ _ h => Or.inr h⟩, h4⟩
  | .error (_, _), h => h
theorem RdPostO.none {B : Nat} {s : ByteArray} {bash : Bool} {d : Nat} {w w' : World} {e : Ending} : ∀ {q : Except (Int × Nat) (T × St)}, RdPostO (fun _ => False) B s bash d w q e w' → RdPost B s bash d w q e w'
  | .ok (_, _), ⟨h1, ⟨A, c, h2, h3⟩, h4⟩ => ⟨h1, ⟨A, c, h2, h3.weaken fun _ _ h => h.elim False.elim id⟩, h4⟩
  | .error (_, _), h => h

theorem Rd.depth {w : World} {B : Nat} {s : ByteArray} {bash : Bool} {st : St} {d : Nat} (h : Rd w B s bash st d) (d' : Nat) : Rd (w.setCell ⟨B, 7, none⟩ (.int .i64 d')) B s bash st d' := by
  simpa [Rd, rdCells] using heap_set (k := 7) h (.int .i64 d')

set_option maxHeartbeats 1000000 in
theorem within_old (old : Nat → Prop) (g : Nat) (fi lb : Array Value) (eg : ∀ args w, (callFunc g args).run Try.prog w = .ok (.enter g args) w) (B : Nat) (s : ByteArray) (bash : Bool) (st : St) (d : Nat) (w : World) (h : Rd w B s bash st d) (hd : d ≤ 60) (ho : ∀ g, old g → g < w.heap.size ∧ g ≠ B)
    (q : Except (Int × Nat) (T × St)) (hq : d = 60 → q = .error (42, st.place))
    (hc : d ≠ 60 → ∀ W, Kept B w W → Rd W B s bash st (d + 1) → Calls Try.prog g (fi ++ lb) W (RdPostO old B s bash (d + 1) W q)) :
    Calls Try.prog 84 #[.pointer (some ⟨B, 0, none⟩), .func (.func g) fi lb] w (RdPostO old B s bash d w q) := by
  have hB := h.lt
  have hA := h.alloc (.cells #[.string ⟨#[]⟩, .string ⟨#[]⟩, .int .i64 0, .slice none 0 0] 24)
  have hK := (Kept.refl B w).alloc (.cells #[.string ⟨#[]⟩, .string ⟨#[]⟩, .int .i64 0, .slice none 0 0] 24)
  have hV := Var4z.new w
  have hsz : (w.alloc (.cells #[.string ⟨#[]⟩, .string ⟨#[]⟩, .int .i64 0, .slice none 0 0] 24)).heap.size = w.heap.size + 1 := World.size_alloc ..
  by_cases h60 : d = 60
  · have cW := wrong_any B 42 s bash st d _ hA
    obtain rfl := hq h60
    have hdd : (d : Int) = 60 := by omega
    clear hc
    go_enter Try.func84, Try.ntmps84
    generalize hw0 : w.alloc (.cells #[.string ⟨#[]⟩, .string ⟨#[]⟩, .int .i64 0, .slice none 0 0] 24) = w0 at *
    have k7 : w0.cell? ⟨B, 7, none⟩ = some (.int .i64 60) := by rw [hA.c7, hdd]
    clear hdd h60
    go_wp2_with fail
    refine cW.mono ?_
    rintro e w1 ⟨rfl, hb1⟩
    go_wp2_with fail
    exact ⟨rfl, hK.trans (.of_below hb1), rfl⟩
  · have g60 : ((d : Int) == 60) = false := by simp; omega
    have hd1 : (d : Int) + 1 ≤ 60 := by omega
    have hd0 : (0 : Int) ≤ (d : Int) := by omega
    have hc := hc h60
    clear hq h60
    go_enter Try.func84, Try.ntmps84
    generalize hw0 : w.alloc (.cells #[.string ⟨#[]⟩, .string ⟨#[]⟩, .int .i64 0, .slice none 0 0] 24) = w0 at *
    have k7 := hA.c7
    have f7 := hA.free 7
    go_wp2_with fail
    have hr1 := hA.depth (d + 1)
    rw [show ((d + 1 : Nat) : Int) = (d : Int) + 1 by omega] at hr1
    have hk1 := hK.setCell 7 (.int .i64 ((d : Int) + 1))
    have hs1 : (w0.setCell ⟨B, 7, none⟩ (.int .i64 ((d : Int) + 1))).heap.size = w.heap.size + 1 := by simp [World.setCell, hsz]
    have hv1 : Var4z (w0.setCell ⟨B, 7, none⟩ (.int .i64 ((d : Int) + 1))) w.heap.size := (Below.heap_setCell _ _ _ _ (by show w.heap.size ≠ B; omega)).trans hV
    generalize w0.setCell ⟨B, 7, none⟩ (.int .i64 ((d : Int) + 1)) = w1 at *
    have hcc := hc w1 hk1 hr1
    clear hc hA hK hV k7 f7 hsz hw0 hr1 h
    cases q with
    | error y =>
      obtain ⟨e0, p⟩ := y
      refine hcc.mono ?_
      rintro e w2 ⟨hk2, rfl⟩
      go_wp2_with fail
      exact ⟨rfl, hk1.trans hk2, rfl⟩
    | ok y =>
      obtain ⟨x, st'⟩ := y
      refine hcc.mono ?_
      rintro e w2 ⟨hk2, ⟨A, c, rfl, hT⟩, hr2, hg2⟩
      have hv2 := hv1.kept hk2 (by omega)
      have hk2' := hk1.trans hk2
      have hlt2 := hv2.lt
      obtain ⟨op, hop⟩ : ∃ y, opT x = y := ⟨_, rfl⟩
      obtain ⟨nm, hnm⟩ : ∃ y, nameT x = y := ⟨_, rfl⟩
      obtain ⟨nn, hnn⟩ : ∃ y, numT x = y := ⟨_, rfl⟩
      obtain ⟨ln, hln⟩ : ∃ y, lenT x = y := ⟨_, rfl⟩
      simp only [c0, c1, c2, hop, hnm, hnn, hln]
      have hX : Var4 (w2.alloc (.cells #[.string ⟨op.toArray⟩, .string ⟨nm.toArray⟩, .int .i64 nn, .slice A ln c] 24)) w2.heap.size (.string ⟨op.toArray⟩) (.string ⟨nm.toArray⟩) (.int .i64 nn) (.slice A ln c) := heap_alloc_new _ _
      have hr3 := hr2.alloc (.cells #[.string ⟨op.toArray⟩, .string ⟨nm.toArray⟩, .int .i64 nn, .slice A ln c] 24)
      have hv3 := hv2.alloc (.cells #[.string ⟨op.toArray⟩, .string ⟨nm.toArray⟩, .int .i64 nn, .slice A ln c] 24)
      have hT3 := hT.below ((Below.refl w2.heap.size w2).alloc (Nat.le_refl _) (.cells #[.string ⟨op.toArray⟩, .string ⟨nm.toArray⟩, .int .i64 nn, .slice A ln c] 24))
      have hk3 := hk2'.alloc (.cells #[.string ⟨op.toArray⟩, .string ⟨nm.toArray⟩, .int .i64 nn, .slice A ln c] 24)
      generalize hw3 : w2.alloc (.cells #[.string ⟨op.toArray⟩, .string ⟨nm.toArray⟩, .int .i64 nn, .slice A ln c] 24) = w3 at *
      have hr4 := hr3.depth d
      have hNB : w2.heap.size ≠ B := by omega
      have hX4 : Var4 (w3.setCell ⟨B, 7, none⟩ (.int .i64 (d : Int))) w2.heap.size (.string ⟨op.toArray⟩) (.string ⟨nm.toArray⟩) (.int .i64 nn) (.slice A ln c) := (Below.heap_setCell _ _ _ _ hNB).trans hX
      have hv4 : Var4z (w3.setCell ⟨B, 7, none⟩ (.int .i64 (d : Int))) w.heap.size := (Below.heap_setCell _ _ _ _ (by show w.heap.size ≠ B; omega)).trans hv3
      have hT4 : Tree (w3.setCell ⟨B, 7, none⟩ (.int .i64 (d : Int))) (fun g => old g ∨ w1.heap.size ≤ g) A c x := Tree.frame (fun g _ hp => ⟨hp, Below.heap_setCell _ _ _ _ (by show g ≠ B; rcases hp with hp | hp; exact (ho g hp).2; omega)⟩) x hT3
      have hk4 := hk3.setCell 7 (.int .i64 (d : Int))
      have k7 : w3.cell? ⟨B, 7, none⟩ = some (.int .i64 ((d : Int) + 1)) := hr3.c7
      have f7 := hr3.free 7
      generalize hw4 : w3.setCell ⟨B, 7, none⟩ (.int .i64 (d : Int)) = w4 at *
      have x0 := hX4.a0; have x1 := hX4.a1; have x2 := hX4.a2; have x3 := hX4.a3
      have v0 := hv4.a0; have v1 := hv4.a1; have v2 := hv4.a2; have v3 := hv4.a3
      have f0 := hv4.free 0; have f1 := hv4.free 1; have f2 := hv4.free 2; have f3 := hv4.free 3
      clear hX hr3 hv3 hT3 hk3 hX4 hT hr2 hv2 hk2 hk2' hcc hv1 hk1
      go_wp2_with fail
      refine ret_sum rfl rfl (hv4.set _ _ _ _) rfl ⟨hk4.set4 (Nat.le_refl _) _ _ _ _, ⟨A, c, by simp only [c0, c1, c2, hop, hnm, hnn, hln], ?_⟩, hr4.set4 (by omega) _ _ _ _, hg2⟩
      exact (hT4.set4 (fun g hg e => by rcases hg with hg | hg; have := (ho g hg).1; omega; omega) _ _ _ _).weaken (fun g _ hg => hg.elim Or.inl (fun hg => Or.inr (by omega)))

theorem within_any (g : Nat) (fi lb : Array Value) (eg : ∀ args w, (callFunc g args).run Try.prog w = .ok (.enter g args) w) (B : Nat) (s : ByteArray) (bash : Bool) (st : St) (d : Nat) (w : World) (h : Rd w B s bash st d) (hd : d ≤ 60)
    (q : Except (Int × Nat) (T × St)) (hq : d = 60 → q = .error (42, st.place))
    (hc : d ≠ 60 → ∀ W, Kept B w W → Rd W B s bash st (d + 1) → Calls Try.prog g (fi ++ lb) W (RdPost B s bash (d + 1) W q)) :
    Calls Try.prog 84 #[.pointer (some ⟨B, 0, none⟩), .func (.func g) fi lb] w (RdPost B s bash d w q) :=
  (within_old (fun _ => False) g fi lb eg B s bash st d w h hd (fun _ hh => hh.elim) q hq (fun hne W hk hr => (hc hne W hk hr).mono fun _ _ => RdPost.old)).mono fun _ _ => RdPostO.none
end Go.Proofs.Ytafmcogbbmncoaa
