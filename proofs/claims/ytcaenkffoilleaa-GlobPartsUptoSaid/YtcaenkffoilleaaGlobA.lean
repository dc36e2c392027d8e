/- Contracts of glob's questions of an octet of a pattern, find and setWidth. Conditions: a pattern of at most 2^40 octets. -/
import Derived.Test.YtcaenkffoilleaaGlobM
namespace Go.Proofs.Ytcaenkffoilleaa
open Go.RowKit
open Go.Lib (hid)

/-- The slice at A holds these octets of a pattern. -/
def CharsAt (w : World) (A : Option Addr) (l : List Ch) : Prop := ∀ k (h : k < l.length), ∃ g o, A = some ⟨g, o, none⟩ ∧ w.cell? ⟨g, o + k * 2, none⟩ = some (.int .u8 l[k].1.toNat) ∧ w.cell? ⟨g, o + k * 2 + 1, none⟩ = some (.bool l[k].2)
def chV (c : Ch) : Value := .agg #[.int .u8 c.1.toNat, .bool c.2]

theorem quo_true {c : Ch} {o : UInt8} (h : quo c o = true) : c = (o, false) := by
  obtain ⟨a, b⟩ := c
  simp [quo] at h
  simp [h]

theorem quo_int (a : UInt8) (q : Bool) (n : Nat) (hn : n < 256) : quo (a, q) n.toUInt8 = (!q && decide ((a.toNat : Int) = (n : Int))) := by
  unfold quo
  congr 1
  rw [Bool.eq_iff_iff]
  simp [← UInt8.toNat_inj]
  omega

theorem ends_any (a : UInt8) (q : Bool) (w : World) : Calls Try.prog 41 (#[.agg #[.int .u8 a.toNat, .bool q]] ++ #[]) w fun e w' => e = .returned (.bool (endsB (a, q))) ∧ Below w.heap.size w w' := by
  have H : Hid (endsB (a, q) = (!q && decide ((a.toNat : Int) = 93))) := hid (quo_int a q 93 (by omega))
  cases q
  · go_enter Try.func41, Try.ntmps41
    go_wp2
    go_ret
    exact ⟨by rw [H.out]; rfl, (Below.refl _ _).alloc (Nat.le_refl _) _⟩
  · go_enter Try.func41, Try.ntmps41
    go_wp2
    go_ret
    exact ⟨by rw [H.out]; rfl, (Below.refl _ _).alloc (Nat.le_refl _) _⟩

theorem spans_any (a : UInt8) (q : Bool) (w : World) : Calls Try.prog 42 #[.agg #[.int .u8 a.toNat, .bool q]] w fun e w' => e = .returned (.bool (spansB (a, q))) ∧ Below w.heap.size w w' := by
  have H : Hid (spansB (a, q) = (!q && decide ((a.toNat : Int) = 45))) := hid (quo_int a q 45 (by omega))
  cases q
  · go_enter Try.func42, Try.ntmps42
    go_wp2
    go_ret
    exact ⟨by rw [H.out]; rfl, (Below.refl _ _).alloc (Nat.le_refl _) _⟩
  · go_enter Try.func42, Try.ntmps42
    go_wp2
    go_ret
    exact ⟨by rw [H.out]; rfl, (Below.refl _ _).alloc (Nat.le_refl _) _⟩

theorem special_quoted (a : UInt8) (w : World) : Calls Try.prog 18 (#[.agg #[.int .u8 a.toNat, .bool true]] ++ #[]) w fun e w' => e = .returned (.bool false) ∧ Below w.heap.size w w' := by
  go_enter Try.func18, Try.ntmps18
  go_wp2
  go_ret
  exact ⟨rfl, (Below.refl _ _).alloc (Nat.le_refl _) _⟩

theorem others_any (a : UInt8) (q : Bool) (w : World) : Calls Try.prog 40 #[.agg #[.int .u8 a.toNat, .bool q]] w fun e w' => e = .returned (.bool (othersB (a, q))) ∧ Below w.heap.size w w' := by
  cases q
  · have H : Hid (othersB (a, false) = (decide ((a.toNat : Int) = 33) || decide ((a.toNat : Int) = 94))) := hid (by
      unfold othersB
      rw [Bool.eq_iff_iff]
      simp [← UInt8.toNat_inj]
      omega)
    by_cases h1 : (a.toNat : Int) = 33
    · have g1 : ((a.toNat : Int) == 33) = true := by simpa using h1
      have HV : Hid (othersB (a, false) = true) := hid (by rw [H.out]; simp [h1])
      clear H h1
      go_enter Try.func40, Try.ntmps40
      go_wp2
      go_ret
      exact ⟨by rw [HV.out]; rfl, (Below.refl _ _).alloc (Nat.le_refl _) _⟩
    · have g1 : ((a.toNat : Int) == 33) = false := by simpa using h1
      have HV : Hid (othersB (a, false) = decide ((a.toNat : Int) = 94)) := hid (by rw [H.out]; simp [h1])
      clear H h1
      go_enter Try.func40, Try.ntmps40
      go_wp2
      go_ret
      exact ⟨by rw [HV.out]; rfl, (Below.refl _ _).alloc (Nat.le_refl _) _⟩
  · go_enter Try.func40, Try.ntmps40
    go_wp2
    go_ret
    exact ⟨rfl, (Below.refl _ _).alloc (Nat.le_refl _) _⟩

theorem CharsAt.below {w w' : World} {A : Option Addr} {l : List Ch} (h : CharsAt w A l) (hb : Below w.heap.size w w') : CharsAt w' A l := fun k hk => by
  obtain ⟨g, o, e, h1, h2⟩ := h k hk
  exact ⟨g, o, e, cell_below hb h1, cell_below hb h2⟩

theorem findL_step (asked : Ch → Bool) (l : List Ch) (k : Nat) (h : k < l.length) : findL asked k (l.drop k) = if asked l[k] then k else findL asked (k + 1) (l.drop (k + 1)) := by
  rw [List.drop_eq_getElem_cons h]; rfl

set_option maxHeartbeats 1000000 in
theorem find_any (g : Nat) (eg : ∀ args w, (callFunc g args).run Try.prog w = .ok (.enter g args) w) (asked : Ch → Bool) (A : Option Addr) (cap : Nat) (l : List Ch) (k0 : Nat) (w : World)
    (hl : l.length ≤ 1099511627776) (_hk0 : k0 ≤ 1099511627776) (h : CharsAt w A l)
    (hp : ∀ (i : Nat) (h : i < l.length) (W : World), Calls Try.prog g (#[.agg #[.int .u8 l[i].1.toNat, .bool l[i].2]] ++ #[]) W fun e w' => e = .returned (.bool (asked l[i])) ∧ Below W.heap.size W w') :
    Calls Try.prog 17 #[.slice A l.length cap, .int .i64 k0, .func (.func g) #[] #[]] w fun e w' => e = .returned (.int .i64 (findN asked l k0)) ∧ Below w.heap.size w w' := by
  by_cases hle : k0 ≤ l.length
  · have HF : Hid (findN asked l k0 = findL asked k0 (l.drop k0)) := hid (if_pos hle)
    go_enter Try.func17, Try.ntmps17
    go_wp2
    go_loopw [7] (fun i wr => ∃ k : Nat, k ≤ l.length ∧ i = .int .i64 k ∧ Hid (findN asked l k0 = findL asked k (l.drop k)) ∧ Below w.heap.size w wr) (fun i _ => l.length - (intOf i).toNat)
    case atStart => exact ⟨k0, hle, rfl, HF, Below.refl _ _⟩
    case round =>
      obtain ⟨k, hk, rfl, HE, hB⟩ := hrel
      clear HF
      by_cases hlt : k < l.length
      · obtain ⟨ag, ao, rfl, h1, h2⟩ := (h.below hB) k hlt
        have hst := findL_step asked l k hlt
        have cS := hp k hlt
        clear hp h
        cases ha : asked l[k]
        · have HN : Hid (findN asked l k0 = findL asked (k + 1) (l.drop (k + 1))) := hid (by rw [HE.out, hst, ha]; rfl)
          rw [ha] at cS
          clear hst ha HE
          go_wp2_with (go_at_fn g; refine (cS _).mono ?_; rintro e w1 ⟨rfl, hb1⟩)
          go_roundw
          case rel => exact ⟨k + 1, by omega, by go_num, HN, hB.trans (hb1.mono hB.size)⟩
          case measure => simp [intOf]; omega
        · have HN : Hid (findN asked l k0 = k) := hid (by rw [HE.out, hst, ha]; rfl)
          rw [ha] at cS
          clear hst ha HE
          go_wp2_with (go_at_fn g; refine (cS _).mono ?_; rintro e w1 ⟨rfl, hb1⟩)
          go_ret
          exact ⟨by rw [HN.out]; rfl, hB.trans (hb1.mono hB.size)⟩
      · have HN : Hid (findN asked l k0 = l.length) := hid (by rw [HE.out, List.drop_of_length_le (by omega)]; simp only [findL]; omega)
        clear HE hp h
        go_wp2
        go_ret
        exact ⟨by rw [HN.out]; rfl, hB⟩
  · have HF : Hid (findN asked l k0 = l.length) := hid (if_neg hle)
    clear hp h
    go_enter Try.func17, Try.ntmps17
    go_wp2
    go_loopw [7] (fun i wr => i = .int .i64 k0 ∧ wr = w) (fun i _ => 0)
    case atStart => exact ⟨rfl, rfl⟩
    case round =>
      obtain ⟨rfl, rfl⟩ := hrel
      go_wp2
      go_ret
      exact ⟨by rw [HF.out]; rfl, Below.refl _ _⟩
end Go.Proofs.Ytcaenkffoilleaa
