/- The program's cutter: a piece's octets, a piece. Conditions: sizes. -/
import Derived.Test.YtchnopfnjkbelaaDoorFlG
namespace Go.Proofs.YtchnopfnjkbelaaDoor
open Go.RowKit
open Go.Lib (hid)

theorem step_false (ifs : List UInt8) (s : Fs) (c : Oc) : stepO false ifs s c = ⟨s.out, s.now ++ [c], true, false⟩ := by simp [stepO, cutsO]
theorem sizes_at {split : Bool} {ifs : List UInt8} {s : Fs} {ch : List Oc} {k : Nat} (hn : sizeF s + ch.length ≤ 1099511627776) : ((ch.take k).foldl (stepO split ifs) s).now.length ≤ 1099511627776 ∧ ((ch.take k).foldl (stepO split ifs) s).out.length ≤ 1099511627776 := by
  have h := fold_size split ifs (ch.take k) s
  rw [List.length_take] at h
  unfold sizeF at h hn
  omega
theorem cutAll_any {w0 : World} {G : Nat} {ifs : List UInt8} {s : Fs} (B : Option Addr) (cc : Nat) (ch : List Oc) (w : World) (hO : OcsP w0 (fun _ => True) B ch) (h : CU w0.heap.size w0 G (kindsV ifs) s w) (hn : sizeF s + ch.length ≤ 1099511627776) :
    Calls Tryd.prog 24 #[.slice B ch.length cc, .func (.func 31) #[.pointer (some ⟨G, 0, none⟩)] #[]] w fun e w' => e = .returned (.tuple #[]) ∧ CU w0.heap.size w0 G (kindsV ifs) (ch.foldl (stepO true ifs) s) w' ∧ PcK w w' := by
  refine (eachC_any 31 (.pointer (some ⟨G, 0, none⟩)) (enters_of Tryd.func31 (by kernel_rfl) rfl) (fun k W => CU w0.heap.size w0 G (kindsV ifs) ((ch.take k).foldl (stepO true ifs) s) W ∧ PcK w W) B cc ch w (by omega) ⟨h, .refl _⟩ (fun k W hI => hO.below hI.1.bel) (fun k W W' hI hb => ⟨hI.1.below hb, hI.2.trans (.below hb)⟩) fun k hk W hI => ?_).mono ?_
  · obtain ⟨h1, h2⟩ := sizes_at (split := true) (ifs := ifs) (k := k) hn
    refine (cut_any _ _ W hI.1 h1 h2).mono ?_
    rintro e W' ⟨rfl, a, b⟩
    exact ⟨rfl, by rw [steps_succ true ifs ch s k hk]; exact a, hI.2.trans b⟩
  · rintro e W' ⟨rfl, a, b⟩
    rw [List.take_length] at a
    exact ⟨rfl, a, b⟩
theorem putAll_any {w0 : World} {G : Nat} {ifs : List UInt8} {s : Fs} (B : Option Addr) (cc : Nat) (ch : List Oc) (w : World) (hO : OcsP w0 (fun _ => True) B ch) (h : CU w0.heap.size w0 G (kindsV ifs) s w) (hn : sizeF s + ch.length ≤ 1099511627776) :
    Calls Tryd.prog 24 #[.slice B ch.length cc, .func (.func 32) #[.pointer (some ⟨G, 0, none⟩)] #[]] w fun e w' => e = .returned (.tuple #[]) ∧ CU w0.heap.size w0 G (kindsV ifs) (ch.foldl (stepO false ifs) s) w' ∧ PcK w w' := by
  refine (eachC_any 32 (.pointer (some ⟨G, 0, none⟩)) (enters_of Tryd.func32 (by kernel_rfl) rfl) (fun k W => CU w0.heap.size w0 G (kindsV ifs) ((ch.take k).foldl (stepO false ifs) s) W ∧ PcK w W) B cc ch w (by omega) ⟨h, .refl _⟩ (fun k W hI => hO.below hI.1.bel) (fun k W W' hI hb => ⟨hI.1.below hb, hI.2.trans (.below hb)⟩) fun k hk W hI => ?_).mono ?_
  · obtain ⟨h1, h2⟩ := sizes_at (split := false) (ifs := ifs) (k := k) hn
    refine (put_any _ _ W hI.1 h1).mono ?_
    rintro e W' ⟨rfl, a, b⟩
    exact ⟨rfl, by rw [steps_succ false ifs ch s k hk, step_false]; exact a, hI.2.trans b⟩
  · rintro e W' ⟨rfl, a, b⟩
    rw [List.take_length] at a
    exact ⟨rfl, a, b⟩

/-- A piece as the program has it. -/
def pcV (B : Option Addr) (cc : Nat) (p : Pc) : Value := .agg #[.slice B p.ch.length cc, .bool p.split, .bool p.kept, .bool p.cut]

set_option maxRecDepth 100000 in
set_option maxHeartbeats 8000000 in
theorem piece_any {w0 : World} {G : Nat} {ifs : List UInt8} {s : Fs} (B : Option Addr) (cc : Nat) (p : Pc) (w : World) (hO : OcsP w0 (fun _ => True) B p.ch) (h : CU w0.heap.size w0 G (kindsV ifs) s w) (hn : sizeF s + p.ch.length ≤ 1099511627776) :
    Calls Tryd.prog 19 #[.pointer (some ⟨G, 0, none⟩), pcV B cc p] w fun e w' => e = .returned (.tuple #[]) ∧ CU w0.heap.size w0 G (kindsV ifs) (stepPc ifs s p) w' := by
  obtain ⟨ch, sl, kp, ct⟩ := p
  simp only at hO hn
  obtain ⟨W2, hW2⟩ : ∃ W2, w.alloc (.cells #[.slice B ch.length cc, .bool sl, .bool kp, .bool ct] 45) = W2 := ⟨_, rfl⟩
  have hb2 : Below w.heap.size w W2 := by rw [← hW2]; exact (Below.refl _ _).alloc (Nat.le_refl _) _
  have hbx : W2.heap[w.heap.size]? = some (.cells #[.slice B ch.length cc, .bool sl, .bool kp, .bool ct] 45 (0, 0)) := by rw [← hW2]; exact heap_alloc_new _ _
  have hcells : ∀ W, PcK W2 W → W.cell? ⟨w.heap.size, 0, none⟩ = some (.slice B ch.length cc) ∧ W.cell? ⟨w.heap.size, 1, none⟩ = some (.bool sl) ∧ W.cell? ⟨w.heap.size, 2, none⟩ = some (.bool kp) ∧ W.cell? ⟨w.heap.size, 3, none⟩ = some (.bool ct) := fun W hP => by
    have e := hP _ _ hbx
    simp [World.cell?, e]
  obtain ⟨x0, x1, x2, x3⟩ := hcells W2 (.refl _)
  have h2 := h.below hb2
  -- behind Kept
  obtain ⟨s1, hs1⟩ : ∃ s1, keptO ⟨ch, sl, kp, ct⟩ s = s1 := ⟨_, rfl⟩
  have hk1 := kept_size ⟨ch, sl, kp, ct⟩ s
  have hstep : stepPc ifs s ⟨ch, sl, kp, ct⟩ = cutO ⟨ch, sl, kp, ct⟩ (ch.foldl (stepO sl ifs) s1) := by rw [← hs1]; rfl
  rw [hs1] at hk1
  have hfs := fold_size sl ifs ch s1
  obtain ⟨W3, hW3⟩ : ∃ W3, (if kp then W2.setCell ⟨G, 258, none⟩ (.bool true) else W2) = W3 := ⟨_, rfl⟩
  have h3 : CU w0.heap.size w0 G (kindsV ifs) s1 W3 ∧ PcK W2 W3 := by
    obtain ⟨hNG, hI, vo, vn, sp, hC, hw, hS⟩ := h2
    cases kp
    · subst hs1 hW3
      exact ⟨⟨hNG, hI, vo, vn, sp, hC, hw, hS⟩, .refl _⟩
    · subst hs1 hW3
      exact ⟨⟨hNG, (fun e => by cases e), vo, vn, sp, hC.set2 true, by simp [keptO], (hS.set hC hNG 258 (.bool true)).flags rfl rfl⟩, .set hC 258 (.bool true)⟩
  obtain ⟨y0, y1, y2, y3⟩ := hcells W3 h3.2
  have p2 : ∃ b, W2.cell? ⟨G, 258, none⟩ = some (.bool b) := by
    obtain ⟨-, -, vo, vn, sp, hC, -⟩ := h2
    exact ⟨_, hC.c2⟩
  have f2 : W2.frozen? ⟨G, 258, none⟩ = false := by
    obtain ⟨-, -, vo, vn, sp, hC, -⟩ := h2
    exact hC.free 258
  obtain ⟨b2, p2⟩ := p2
  have cC := cutAll_any (ifs := ifs) B cc ch W3 hO h3.1 (by omega)
  have cP := putAll_any (ifs := ifs) B cc ch W3 hO h3.1 (by omega)
  have cE := fun W (hW : CU w0.heap.size w0 G (kindsV ifs) (ch.foldl (stepO sl ifs) s1) W) => end_any W hW (by unfold sizeF at hn hk1 hfs; omega)
  have HS := hid hstep
  have HC := hid (fun W hP => hcells W (h3.2.trans hP))
  clear hstep hcells h3 h2 hs1 hk1 hfs hn h hO hb2 hbx
  unfold pcV
  go_enter Tryd.func19, Tryd.ntmps19
  cases kp
  all_goals
    simp only [if_true, if_false, Bool.false_eq_true] at hW3
    try subst W3
    cases sl
    all_goals
      cases ct
      all_goals
        go_wp2_with (first | (go_at_call 24; (with_reducible first | refine cC.mono ?_ | refine cP.mono ?_); rintro e w9 ⟨rfl, h9, hP9⟩; obtain ⟨z0, z1, z2, z3⟩ := HC.out _ hP9) | (go_at_call 20; (with_reducible refine (cE _ h9).mono ?_); rintro e w8 ⟨rfl, h8, -⟩))
        go_end0
        rw [HS.out]
        first | exact ⟨rfl, h9⟩ | exact ⟨rfl, h8⟩
end Go.Proofs.YtchnopfnjkbelaaDoor
