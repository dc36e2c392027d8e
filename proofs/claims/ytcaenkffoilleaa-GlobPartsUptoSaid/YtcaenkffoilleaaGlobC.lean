/- Contracts of (part).takes and what it calls. Conditions: spans of at most 2^40. -/
import Derived.Test.YtcaenkffoilleaaGlobB
namespace Go.Proofs.Ytcaenkffoilleaa
open Go.RowKit
open Go.Lib (hid)

theorem u8_le (a b : UInt8) : decide (a ≤ b) = decide (a.toNat ≤ b.toNat) := rfl

set_option maxHeartbeats 1000000 in
theorem takesFn (x y c : UInt8) (b : Nat) (w : World) (h : w.cell? ⟨b, 0, none⟩ = some (.int .u8 c.toNat)) :
    Calls Try.prog 33 (#[.agg #[.int .u8 x.toNat, .int .u8 y.toNat]] ++ #[.pointer (some ⟨b, 0, none⟩)]) w fun e w' => e = .returned (.bool (Sp.has (x, y) c)) ∧ Below w.heap.size w w' := by
  have hb := World.block_lt_of_cell? w _ h
  have hb : b < w.heap.size := hb
  have H : Hid (Sp.has (x, y) c = (decide (x.toNat ≤ c.toNat) && decide (c.toNat ≤ y.toNat))) := hid (by unfold Sp.has; rw [u8_le, u8_le])
  have hc : ∀ o, (w.alloc o).cell? ⟨b, 0, none⟩ = some (.int .u8 c.toNat) := fun o => cell_below ((Below.refl _ _).alloc (Nat.le_refl _) _) h
  cases hx : decide (x.toNat ≤ c.toNat)
  · have HV : Hid (Sp.has (x, y) c = false) := hid (by rw [H.out, hx]; rfl)
    clear H
    go_enter Try.func33, Try.ntmps33
    go_wp2
    go_ret
    exact ⟨by rw [HV.out]; rfl, (Below.refl _ _).alloc (Nat.le_refl _) _⟩
  · have HV : Hid (Sp.has (x, y) c = decide (c.toNat ≤ y.toNat)) := hid (by rw [H.out, hx]; rfl)
    clear H
    go_enter Try.func33, Try.ntmps33
    go_wp2
    go_ret
    exact ⟨by rw [HV.out]; rfl, (Below.refl _ _).alloc (Nat.le_refl _) _⟩

def ixL (p : Sp → Bool) : Nat → List Sp → Int
  | _, [] => -1
  | k, s :: r => if p s then k else ixL p (k + 1) r
theorem ixL_any (p : Sp → Bool) : ∀ (k : Nat) (l : List Sp), decide (0 ≤ ixL p k l) = l.any p
  | _, [] => rfl
  | k, s :: r => by
    unfold ixL
    by_cases h : p s = true
    · rw [if_pos h, List.any_cons, h]; simp
    · rw [if_neg h, List.any_cons, ixL_any p (k + 1) r]; simp [h]
theorem ixL_step (p : Sp → Bool) (l : List Sp) (k : Nat) (h : k < l.length) : ixL p k (l.drop k) = if p l[k] then (k : Int) else ixL p (k + 1) (l.drop (k + 1)) := by
  rw [List.drop_eq_getElem_cons h]; rfl

theorem SpAt.cell {w : World} {A : Option Addr} {n cap : Nat} {l : List Sp} (h : SpAt w (.slice A n cap) l) (k : Nat) (hk : k < l.length) : ∃ g, A = some ⟨g, 0, none⟩ ∧ w.cell? ⟨g, k * 2, none⟩ = some (.int .u8 l[k].1.toNat) ∧ w.cell? ⟨g, k * 2 + 1, none⟩ = some (.int .u8 l[k].2.toNat) := by
  obtain ⟨A', cap', hv, hk'⟩ := h
  cases hv
  obtain ⟨g, cs, h1, h2, h3, h4⟩ := hk' k hk
  exact ⟨g, h1, by simp [World.cell?, h2, h3], by simp [World.cell?, h2, h4]⟩

set_option maxHeartbeats 1000000 in
theorem index_any (g : Nat) (lb : Array Value) (eg : ∀ args w, (callFunc g args).run Try.prog w = .ok (.enter g args) w) (p : Sp → Bool) (A : Option Addr) (cap : Nat) (l : List Sp) (w : World)
    (hl : l.length ≤ 1099511627776) (h : SpAt w (.slice A l.length cap) l)
    (hp : ∀ (i : Nat) (h : i < l.length) (W : World), Below w.heap.size w W → Calls Try.prog g (#[.agg #[.int .u8 l[i].1.toNat, .int .u8 l[i].2.toNat]] ++ lb) W fun e w' => e = .returned (.bool (p l[i])) ∧ Below W.heap.size W w') :
    Calls Try.prog 39 #[.slice A l.length cap, .func (.func g) #[] lb] w fun e w' => e = .returned (.int .i64 (ixL p 0 l)) ∧ Below w.heap.size w w' := by
  go_enter Try.func39, Try.ntmps39
  go_wp2
  go_loopw [8] (fun i wr => ∃ k : Nat, k ≤ l.length ∧ i = .int .i64 k ∧ Hid (ixL p 0 l = ixL p k (l.drop k)) ∧ Below w.heap.size w wr) (fun i _ => l.length - (intOf i).toNat)
  case atStart => exact ⟨0, Nat.zero_le _, rfl, hid rfl, Below.refl _ _⟩
  case round =>
    obtain ⟨k, hk, rfl, HE, hB⟩ := hrel
    by_cases hlt : k < l.length
    · obtain ⟨ag, rfl, h1, h2⟩ := (h.below hB).cell k hlt
      have hst := ixL_step p l k hlt
      have cS := hp k hlt wr hB
      clear hp h
      cases ha : p l[k]
      · have HN : Hid (ixL p 0 l = ixL p (k + 1) (l.drop (k + 1))) := hid (by rw [HE.out, hst, ha]; rfl)
        rw [ha] at cS
        clear hst ha HE
        go_wp2_with (go_at_fn g; refine cS.mono ?_; rintro e w1 ⟨rfl, hb1⟩)
        go_roundw
        case rel => exact ⟨k + 1, by omega, by go_num, HN, hB.trans (hb1.mono hB.size)⟩
        case measure => simp [intOf]; omega
      · have HN : Hid (ixL p 0 l = k) := hid (by rw [HE.out, hst, ha]; rfl)
        rw [ha] at cS
        clear hst ha HE
        go_wp2_with (go_at_fn g; refine cS.mono ?_; rintro e w1 ⟨rfl, hb1⟩)
        go_ret
        exact ⟨by rw [HN.out]; rfl, hB.trans (hb1.mono hB.size)⟩
    · have HN : Hid (ixL p 0 l = -1) := hid (by rw [HE.out, List.drop_of_length_le (by omega)]; rfl)
      clear HE hp h
      go_wp2
      go_ret
      exact ⟨by rw [HN.out]; rfl, hB⟩

set_option maxHeartbeats 1000000 in
theorem contains_any (g : Nat) (lb : Array Value) (eg : ∀ args w, (callFunc g args).run Try.prog w = .ok (.enter g args) w) (p : Sp → Bool) (A : Option Addr) (cap : Nat) (l : List Sp) (w : World)
    (hl : l.length ≤ 1099511627776) (h : SpAt w (.slice A l.length cap) l)
    (hp : ∀ (i : Nat) (h : i < l.length) (W : World), Below w.heap.size w W → Calls Try.prog g (#[.agg #[.int .u8 l[i].1.toNat, .int .u8 l[i].2.toNat]] ++ lb) W fun e w' => e = .returned (.bool (p l[i])) ∧ Below W.heap.size W w') :
    Calls Try.prog 32 #[.slice A l.length cap, .func (.func g) #[] lb] w fun e w' => e = .returned (.bool (l.any p)) ∧ Below w.heap.size w w' := by
  have cI := index_any g lb eg p A cap l w hl h hp
  have HA := hid (ixL_any p 0 l)
  clear hp h eg
  generalize ixL p 0 l = z at *
  go_enter Try.func32, Try.ntmps32
  go_wp2_with (go_at_call 39; (with_reducible refine cI.mono ?_); rintro e w1 ⟨rfl, hb1⟩)
  go_ret
  exact ⟨by rw [← HA.out]; rfl, hb1⟩

theorem cell2_new (w : World) (A : Obj) (cs : Array Value) (t : TypeId) (k : Nat) : ((w.alloc A).alloc (.cells cs t)).cell? ⟨w.heap.size + 1, k, none⟩ = cs[k]? := by
  unfold World.cell?
  rw [heap_alloc2_new]
  rfl
theorem cell2_old (w : World) (B : Obj) (cs : Array Value) (t : TypeId) (k : Nat) : ((w.alloc (.cells cs t)).alloc B).cell? ⟨w.heap.size, k, none⟩ = cs[k]? := by
  unfold World.cell?
  rw [heap_alloc2_old]
  rfl

set_option maxHeartbeats 1000000 in
theorem takes_any (q : Pt) (sv : Value) (c : UInt8) (w : World) (hl : q.spans.length ≤ 1099511627776) (h : SpAt w sv q.spans) :
    Calls Try.prog 27 #[.agg #[.bool q.star, .bool q.neg, sv], .int .u8 c.toNat] w fun e w' => e = .returned (.bool (q.takes c)) ∧ Below w.heap.size w w' := by
  obtain ⟨A, cap, rfl, _⟩ := id h
  have hB0 : ∀ o o', Below w.heap.size w ((w.alloc o).alloc o') := fun o o' => ((Below.refl _ _).alloc (Nat.le_refl _) _).alloc (by simp) _
  have cC := fun W (hB : Below w.heap.size w W) (b : Nat) (hc : W.cell? ⟨b, 0, none⟩ = some (.int .u8 c.toNat)) =>
    contains_any 33 #[.pointer (some ⟨b, 0, none⟩)] (enters_of Try.func33 (by kernel_rfl) rfl) (fun s => Sp.has s c) A cap q.spans W hl (h.below hB)
      (fun i hi W' hB' => takesFn q.spans[i].1 q.spans[i].2 c b W' (cell_below hB' hc))
  have HT : Hid (q.takes c = ((q.spans.any fun s => Sp.has s c) != q.neg)) := hid rfl
  generalize (q.spans.any fun s => Sp.has s c) = z at *
  go_enter Try.func27, Try.ntmps27
  go_wp2_with (go_at_call 32; refine (cC _ (hB0 _ _) (w.heap.size + 1) (cell2_new _ _ _ _ 0)).mono ?_; rintro e w1 ⟨rfl, hb1⟩; have c1 := cell_below hb1 (cell2_old w (.cells #[.int .u8 c.toNat] 5) #[.bool q.star, .bool q.neg, .slice A q.spans.length cap] 48 1))
  go_ret
  exact ⟨by rw [HT.out]; rfl, (hB0 _ _).trans (hb1.mono (hB0 _ _).size)⟩
end Go.Proofs.Ytcaenkffoilleaa
