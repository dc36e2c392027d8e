/- Contracts of arith's some (where it is so of nothing within), Check and Plain at expressions that are read. No conditions. -/
import Derived.Test.YtafmcogbbmncoaaArG
import Derived.Test.YtafmcogbbmncoaaArZ
namespace Go.Proofs.Ytafmcogbbmncoaa
open Go.RowKit
open Go.Lib (hid)

theorem fine_node {bash : Bool} {t : T} (h : fineT bash t = true) : nodeB bash t = true := by
  cases t with
  | leaf nm n => exact h
  | one op a => simp only [fineT, Bool.and_eq_true] at h; exact h.1
  | two op a b => simp only [fineT, Bool.and_eq_true] at h; exact h.1.1
  | three op a b c => simp only [fineT, Bool.and_eq_true] at h; exact h.1.1.1
theorem fine_kid {bash : Bool} {t : T} (h : fineT bash t = true) (k : Nat) (hk : k < (kidsT t).length) : fineT bash (kidsT t)[k] = true := by
  cases t with
  | leaf nm n => exact absurd hk (by simp [kidsT])
  | one op a =>
    obtain rfl : k = 0 := by simpa [kidsT] using hk
    simp only [fineT, Bool.and_eq_true] at h; exact h.2
  | two op a b =>
    have : k = 0 ∨ k = 1 := by simp [kidsT] at hk; omega
    simp only [fineT, Bool.and_eq_true] at h
    rcases this with rfl | rfl
    · exact h.1.2
    · exact h.2
  | three op a b c =>
    have : k = 0 ∨ k = 1 ∨ k = 2 := by simp [kidsT] at hk; omega
    simp only [fineT, Bool.and_eq_true] at h
    rcases this with rfl | rfl | rfl
    · exact h.1.1.2
    · exact h.1.2
    · exact h.2
theorem node_len {bash : Bool} {t : T} (h : nodeB bash t = true) : (nameT t).length ≤ 9223372036854775807 := by
  cases t with
  | leaf nm n =>
    show nm.length ≤ _
    by_cases h0 : nm = []
    · rw [h0]; simp
    · have h1 : (if nm = [] then decide (0 ≤ n) else (n == 0 && nameL nm)) = true := h
      rw [if_neg h0, Bool.and_eq_true] at h1
      have h2 := h1.2
      simp only [nameL, Bool.and_eq_true, decide_eq_true_eq] at h2
      omega
  | one op a => simp [nameT]
  | two op a b => simp [nameT]
  | three op a b c => simp [nameT]

set_option maxHeartbeats 1000000 in
theorem idx_any (g : Nat) (lb : Array Value) (eg : ∀ args w, (callFunc g args).run Try.prog w = .ok (.enter g args) w) (t : T) (A : Option Addr) (c : Nat) (P : Nat → Prop) (w : World) (hT : Tree w P A c t)
    (hp : ∀ (k : Nat) (h : k < (kidsT t).length) (W : World) (A1 : Option Addr) (k1 : Nat), Below w.heap.size w W → Tree W P A1 k1 (kidsT t)[k] → Calls Try.prog g (#[.agg #[c0 (kidsT t)[k], c1 (kidsT t)[k], c2 (kidsT t)[k], .slice A1 (lenT (kidsT t)[k]) k1]] ++ lb) W fun e w' => e = .returned (.bool false) ∧ Below W.heap.size W w') :
    Calls Try.prog 65 #[.slice A (lenT t) c, .func (.func g) #[] lb] w fun e w' => e = .returned (.int .i64 (-1)) ∧ Below w.heap.size w w' := by
  have hkl := kids_len t
  have hl3 : lenT t ≤ 3 := by cases t <;> simp [lenT]
  go_enter Try.func65, Try.ntmps65
  go_wp2
  go_loopw [8] (fun i wr => ∃ k : Nat, k ≤ (kidsT t).length ∧ i = .int .i64 k ∧ Below w.heap.size w wr) (fun i _ => (kidsT t).length - (intOf i).toNat)
  case atStart => exact ⟨0, Nat.zero_le _, rfl, Below.refl _ _⟩
  case round =>
    obtain ⟨k, hk, rfl, hB⟩ := hrel
    by_cases hlt : k < (kidsT t).length
    · have hTr := hT.below hB
      obtain ⟨g1, A1, k1, rfl, d0, d1, d2, d3, hTk⟩ := hTr.kid k hlt
      have cC := hp k hlt wr A1 k1 hB hTk
      have hg1 : (k : Int) < (lenT t : Int) := by omega
      have hg0 : (0 : Int) ≤ (k : Int) := by omega
      generalize (kidsT t)[k] = tk at *
      clear hp hT hTr hTk
      go_wp2_with (go_at_fn g; refine cC.mono ?_; rintro e w3 ⟨rfl, hb3⟩)
      go_roundw
      case rel => exact ⟨k + 1, by omega, by go_num, hB.trans (hb3.mono hB.size)⟩
      case measure => simp [intOf]; omega
    · have hke : k = (kidsT t).length := by omega
      subst hke
      have hg1 : decide (((kidsT t).length : Int) < (lenT t : Int)) = false := by simp; omega
      clear hp hT
      go_wp2
      go_ret
      exact ⟨rfl, hB⟩

theorem containsF_any (g : Nat) (lb : Array Value) (A : Option Addr) (n c : Nat) (w : World) (h : Calls Try.prog 65 #[.slice A n c, .func (.func g) #[] lb] w fun e w' => e = .returned (.int .i64 (-1)) ∧ Below w.heap.size w w') :
    Calls Try.prog 42 #[.slice A n c, .func (.func g) #[] lb] w fun e w' => e = .returned (.bool false) ∧ Below w.heap.size w w' := by
  go_enter Try.func42, Try.ntmps42
  go_wp2_with (go_at_call 65; (with_reducible refine h.mono ?_); rintro e w3 ⟨rfl, hb3⟩)
  go_ret
  exact ⟨rfl, hb3⟩

set_option maxHeartbeats 2000000 in
theorem some_any (bash : Bool) (g : Nat) (eg : ∀ args w, (callFunc g args).run Try.prog w = .ok (.enter g args) w)
    (hp : ∀ (t : T) (A : Option Addr) (c : Nat) (P : Nat → Prop) (W : World), fineT bash t = true → Tree W P A c t → Calls Try.prog g (#[.agg #[c0 t, c1 t, c2 t, .slice A (lenT t) c]] ++ #[]) W fun e w' => e = .returned (.bool false) ∧ Below W.heap.size W w') :
    ∀ (n : Nat) (t : T), sz t = n → fineT bash t = true → ∀ (A : Option Addr) (c : Nat) (P : Nat → Prop) (w : World), Tree w P A c t →
    Calls Try.prog 25 #[.agg #[c0 t, c1 t, c2 t, .slice A (lenT t) c], .func (.func g) #[] #[]] w fun e w' => e = .returned (.bool false) ∧ Below w.heap.size w w' := by
  intro n
  induction n using Nat.strongRecOn with
  | _ n ih =>
    intro t hn hf A c P w hT
    have hal1 : Below w.heap.size w (w.alloc (.cells #[c0 t, c1 t, c2 t, .slice A (lenT t) c] 24)) := (Below.refl _ _).alloc (Nat.le_refl _) _
    have hX : Var4 ((w.alloc (.cells #[c0 t, c1 t, c2 t, .slice A (lenT t) c] 24)).alloc (.cells #[.func (.func g) #[] #[]] 34)) w.heap.size (c0 t) (c1 t) (c2 t) (.slice A (lenT t) c) := (Below.heap_alloc _ _ _ (by simp)).trans (heap_alloc_new _ _)
    have hF : ((w.alloc (.cells #[c0 t, c1 t, c2 t, .slice A (lenT t) c] 24)).alloc (.cells #[.func (.func g) #[] #[]] 34)).heap[w.heap.size + 1]? = some (.cells #[.func (.func g) #[] #[]] 34 (0, 0)) := by
      have := heap_alloc_new (w.alloc (.cells #[c0 t, c1 t, c2 t, .slice A (lenT t) c] 24)) (.cells #[.func (.func g) #[] #[]] 34)
      rwa [World.size_alloc] at this
    have hal : Below w.heap.size w ((w.alloc (.cells #[c0 t, c1 t, c2 t, .slice A (lenT t) c] 24)).alloc (.cells #[.func (.func g) #[] #[]] 34)) := hal1.alloc hal1.size _
    have hT0 := hT.below hal
    have x0 := hX.a0; have x1 := hX.a1; have x2 := hX.a2; have x3 := hX.a3
    have f0 := cell_of_one hF
    have cP := hp t A c P _ hf hT0
    have eg2 := enters_of Try.func43 (by kernel_rfl) rfl
    go_enter Try.func25, Try.ntmps25
    generalize hw0 : (w.alloc (.cells #[c0 t, c1 t, c2 t, .slice A (lenT t) c] 24)).alloc (.cells #[.func (.func g) #[] #[]] 34) = w0 at *
    go_wp2_with fail
    refine cP.mono ?_
    rintro e w1 ⟨rfl, hb1⟩
    have hX1 := hX.below hb1
    have hT1 := hT0.below hb1
    have hF1 := heap_below hF hb1
    have hB1 := hal.trans (hb1.mono hal.size)
    have x3 := hX1.a3
    have cI := idx_any 43 #[.pointer (some ⟨w.heap.size + 1, 0, none⟩)] eg2 t A c P w1 hT1 (fun k hk W A1 k1 hBW hTk => by
      have cS := fun W' (hTW : Tree W' P A1 k1 (kidsT t)[k]) => ih (sz (kidsT t)[k]) (by have := kids_sz t k hk; omega) (kidsT t)[k] rfl (fine_kid hf k hk) A1 k1 P W' hTW
      generalize (kidsT t)[k] = tk at *
      have hFW := heap_below hF1 hBW
      have hY : Var4 (W.alloc (.cells #[c0 tk, c1 tk, c2 tk, .slice A1 (lenT tk) k1] 24)) W.heap.size (c0 tk) (c1 tk) (c2 tk) (.slice A1 (lenT tk) k1) := heap_alloc_new _ _
      have halW : Below W.heap.size W (W.alloc (.cells #[c0 tk, c1 tk, c2 tk, .slice A1 (lenT tk) k1] 24)) := (Below.refl _ _).alloc (Nat.le_refl _) _
      have cS2 := cS _ (hTk.below halW)
      have y0 := hY.a0; have y1 := hY.a1; have y2 := hY.a2; have y3 := hY.a3
      have f1 := cell_of_one (heap_below hFW halW)
      clear cS ih hp cP hT hT0 hT1 hTk hX hX1 hw0
      go_enter Try.func43, Try.ntmps43
      go_wp2_with (go_at_call 25; (with_reducible refine cS2.mono ?_); rintro e w3 ⟨rfl, hb3⟩)
      go_ret
      exact ⟨rfl, halW.trans (hb3.mono halW.size)⟩)
    have cC := containsF_any 43 #[.pointer (some ⟨w.heap.size + 1, 0, none⟩)] A (lenT t) c w1 cI
    clear ih hp cP cI hT hT0 hT1 hn
    go_wp2_with (go_at_call 42; (with_reducible refine cC.mono ?_); rintro e w3 ⟨rfl, hb3⟩)
    go_ret
    exact ⟨rfl, hB1.trans (hb3.mono hB1.size)⟩

theorem Check_any (bash : Bool) (t : T) (hf : fineT bash t = true) (hh : hgt t ≤ 60) (A : Option Addr) (c : Nat) (P : Nat → Prop) (w : World) (hT : Tree w P A c t) :
    Calls Try.prog 15 #[.agg #[c0 t, c1 t, c2 t, .slice A (lenT t) c]] w fun e w' => e = .returned (.int .i64 0) ∧ Below w.heap.size w w' := by
  have hX : Var4 (w.alloc (.cells #[c0 t, c1 t, c2 t, .slice A (lenT t) c] 24)) w.heap.size (c0 t) (c1 t) (c2 t) (.slice A (lenT t) c) := heap_alloc_new _ _
  have hal : Below w.heap.size w (w.alloc (.cells #[c0 t, c1 t, c2 t, .slice A (lenT t) c] 24)) := (Below.refl _ _).alloc (Nat.le_refl _) _
  have eg := enters_of Try.func26 (by kernel_rfl) rfl
  have cD := Deep_any t A c P _ (hT.below hal)
  have cS := fun W hTW => some_any bash 26 eg (fun t A c P W hf hT => check_fn bash t (fine_node hf) A c P W hT (node_len (fine_node hf))) (sz t) t rfl hf A c P W hTW
  have hT0 := hT.below hal
  have x0 := hX.a0; have x1 := hX.a1; have x2 := hX.a2; have x3 := hX.a3
  obtain ⟨m, hm⟩ : ∃ m, min 1000 (hgt t) = m := ⟨_, rfl⟩
  rw [hm] at cD
  have hm60 : decide ((60 : Int) < (m : Int)) = false := by simp; omega
  clear hm hh hf hT
  go_enter Try.func15, Try.ntmps15
  generalize hw0 : w.alloc (.cells #[c0 t, c1 t, c2 t, .slice A (lenT t) c] 24) = w0 at *
  go_wp2_with fail
  refine cD.mono ?_
  rintro e w1 ⟨rfl, hb1⟩
  have hX1 := hX.below hb1
  have x0 := hX1.a0; have x1 := hX1.a1; have x2 := hX1.a2; have x3 := hX1.a3
  have cS1 := cS w1 (hT0.below hb1)
  have hB1 := hal.trans (hb1.mono hal.size)
  clear cD cS
  go_wp2_with fail
  refine cS1.mono ?_
  rintro e w2 ⟨rfl, hb2⟩
  go_wp2_with fail
  go_ret
  exact ⟨rfl, hB1.trans (hb2.mono hB1.size)⟩

theorem Plain_any (t : T) (hf : fineT false t = true) (A : Option Addr) (c : Nat) (P : Nat → Prop) (w : World) (hT : Tree w P A c t) :
    Calls Try.prog 16 #[.agg #[c0 t, c1 t, c2 t, .slice A (lenT t) c]] w fun e w' => e = .returned (.bool true) ∧ Below w.heap.size w w' := by
  have hX : Var4 (w.alloc (.cells #[c0 t, c1 t, c2 t, .slice A (lenT t) c] 24)) w.heap.size (c0 t) (c1 t) (c2 t) (.slice A (lenT t) c) := heap_alloc_new _ _
  have hal : Below w.heap.size w (w.alloc (.cells #[c0 t, c1 t, c2 t, .slice A (lenT t) c] 24)) := (Below.refl _ _).alloc (Nat.le_refl _) _
  have eg := enters_of Try.func28 (by kernel_rfl) rfl
  have cS := some_any false 28 eg (fun t A c P W hf hT => plain_fn t (fine_node hf) A c P W hT) (sz t) t rfl hf A c P _ (hT.below hal)
  have x0 := hX.a0; have x1 := hX.a1; have x2 := hX.a2; have x3 := hX.a3
  clear hf hT
  go_enter Try.func16, Try.ntmps16
  go_wp2_with fail
  refine cS.mono ?_
  rintro e w2 ⟨rfl, hb2⟩
  go_wp2_with fail
  go_ret
  exact ⟨rfl, hal.trans (hb2.mono hal.size)⟩
end Go.Proofs.Ytafmcogbbmncoaa
