
/- texts.Translate: the program's call. Conditions: sizes. -/
import Derived.Test.YtfeedppodffheaaDoorTwE
namespace Go.Proofs.YtfeedppodffheaaDoor
open Go.RowKit
open Go.Lib (hid)

/-- What stands for an octet, where the set's octets from k on are laid. -/
def fromK (a b : List UInt8) (k : Nat) (c : UInt8) : UInt8 := if c ∈ a.drop k then b.getD (min (k + (a.drop k).idxOf c) (b.length - 1)) 0 else c
theorem fromK_end (a b : List UInt8) (c : UInt8) : fromK a b a.length c = c := by unfold fromK; rw [List.drop_length]; simp
theorem fromK_zero (a b : List UInt8) (c : UInt8) : fromK a b 0 c = if c ∈ a then b.getD (min (a.idxOf c) (b.length - 1)) 0 else c := by unfold fromK; rw [List.drop_zero, Nat.zero_add]
theorem fromK_step (a b : List UInt8) (k : Nat) (h : k < a.length) (c : UInt8) : fromK a b k c = if c = a[k] then b.getD (min k (b.length - 1)) 0 else fromK a b (k + 1) c := by
  have hd : a.drop k = a[k] :: a.drop (k + 1) := List.drop_eq_getElem_cons h
  unfold fromK
  rw [hd]
  generalize a.drop (k + 1) = t
  generalize a[k] = x
  by_cases hc : c = x
  · subst hc
    rw [if_pos (List.mem_cons_self ..), if_pos rfl, List.idxOf_cons_self, Nat.add_zero]
  · rw [if_neg hc]
    have hi : (x :: t).idxOf c = t.idxOf c + 1 := by
      have hb : (x == c) = false := by simpa using fun e => hc e.symm
      rw [List.idxOf_cons, hb]; rfl
    by_cases hm : c ∈ t
    · rw [if_pos (List.mem_cons_of_mem _ hm), if_pos hm, hi, show k + (t.idxOf c + 1) = k + 1 + t.idxOf c by omega]
    · rw [if_neg (fun e => by rcases List.mem_cons.1 e with e | e; exact hc e; exact hm e), if_neg hm]

theorem tab_start (n : Nat) (hn : n < 256) : (fun x : UInt8 => Value.int .u8 (((if x.toNat < n + 1 then x else 0 : UInt8)).toNat : Int)) = fun x => if x = n.toUInt8 then Value.int .u8 (n : Int) else Value.int .u8 ((if x.toNat < n then x else 0 : UInt8).toNat : Int) := by
  funext x
  have hx := x.toNat_lt
  have hb : (n.toUInt8).toNat = n := by simp; omega
  by_cases hc : x = n.toUInt8
  · subst hc
    rw [if_pos rfl, if_pos (by omega), hb]
  · rw [if_neg hc]
    have hne : x.toNat ≠ n := fun e => hc (UInt8.toNat_inj.1 (by rw [hb, e]))
    by_cases hl : x.toNat < n
    · rw [if_pos (by omega), if_pos hl]
    · rw [if_neg (by omega), if_neg hl]

set_option linter.unusedSimpArgs false in
set_option maxRecDepth 100000 in
set_option maxHeartbeats 4000000 in
theorem translate_any (s x y : List UInt8) (w : World) (hs : s.length ≤ 140737488355328) (hx : x.length ≤ 68719476736) (hy : y.length ≤ 68719476736) :
    Calls Tryd.prog 8 #[encS s, encS x, encS y] w fun e w' => e = .returned (.tuple #[encS (transT s x y).1, .bool (transT s x y).2]) ∧ Below w.heap.size w w' := by
  have cX := fun W => set_any x W hx
  have cY := fun W => set_any y W hy
  have hla := setT_len x
  have hlb := setT_len y
  have HT := hid (show transT s x y = if (setT x).2 = false ∨ (setT y).2 = false ∨ ((setT y).1 = [] ∧ (setT x).1 ≠ []) then ([], false) else (swapT s (setT x).1 (setT y).1, true) from rfl)
  generalize transT s x y = q at *
  generalize setT x = qa at *
  generalize setT y = qb at *
  obtain ⟨a, oa⟩ := qa
  obtain ⟨b, ob⟩ := qb
  simp only at cX cY HT hla hlb
  have hal : a.length ≤ 17592186044416 := by omega
  have hbl : b.length ≤ 17592186044416 := by omega
  clear hla hlb
  have hcase : (q = ([], false) ∧ (oa = false ∨ (oa = true ∧ ob = false) ∨ (oa = true ∧ ob = true ∧ b = [] ∧ a ≠ []))) ∨ (oa = true ∧ ob = true ∧ q = (swapT s a b, true) ∧ (b ≠ [] ∨ (b = [] ∧ a = []))) := by
    rw [HT.out]
    cases oa
    · exact .inl ⟨by simp, .inl rfl⟩
    · cases ob
      · exact .inl ⟨by simp, .inr (.inl ⟨rfl, rfl⟩)⟩
      · by_cases hb : b = []
        · by_cases ha : a = []
          · exact .inr ⟨rfl, rfl, by simp [ha], .inr ⟨hb, ha⟩⟩
          · exact .inl ⟨by simp [hb, ha], .inr (.inr ⟨rfl, rfl, hb, ha⟩)⟩
        · exact .inr ⟨rfl, rfl, by simp [hb], .inl hb⟩
  clear HT
  rcases hcase with ⟨hq, hc⟩ | ⟨rfl, rfl, hq, hc⟩
  · have HQ := hid hq
    clear hq
    rcases hc with rfl | ⟨rfl, rfl⟩ | ⟨rfl, rfl, rfl, hne⟩
    · go_enter Tryd.func8, Tryd.ntmps8
      go_wp2_with fail
      refine (cX _).mono ?_
      rintro e w1 ⟨rfl, hb1⟩
      have HB1 := hid hb1
      clear cX hb1
      go_wp2_with fail
      refine (cY _).mono ?_
      rintro e w2 ⟨rfl, hb2⟩
      have HB2 := hid (HB1.out.trans (hb2.mono HB1.out.size))
      clear cY hb2
      go_wp2_with fail
      go_ret2
      exact ⟨by rw [HQ.out]; rfl, HB2.out⟩
    · go_enter Tryd.func8, Tryd.ntmps8
      go_wp2_with fail
      refine (cX _).mono ?_
      rintro e w1 ⟨rfl, hb1⟩
      have HB1 := hid hb1
      clear cX hb1
      go_wp2_with fail
      refine (cY _).mono ?_
      rintro e w2 ⟨rfl, hb2⟩
      have HB2 := hid (HB1.out.trans (hb2.mono HB1.out.size))
      clear cY hb2
      go_wp2_with fail
      go_ret2
      exact ⟨by rw [HQ.out]; rfl, HB2.out⟩
    · obtain ⟨z, z1, z2, z3⟩ : ∃ z, a.isEmpty = z ∧ (a == []) = z ∧ (a != []) = !z := ⟨false, by cases a with | nil => exact absurd rfl hne | cons _ _ => rfl, by cases a with | nil => exact absurd rfl hne | cons _ _ => rfl, by cases a with | nil => exact absurd rfl hne | cons _ _ => rfl⟩
      obtain rfl : z = false := by rw [← z1]; cases a with | nil => exact absurd rfl hne | cons _ _ => rfl
      clear hne
      go_enter Tryd.func8, Tryd.ntmps8
      go_wp2_with fail
      refine (cX _).mono ?_
      rintro e w1 ⟨rfl, hb1⟩
      have HB1 := hid hb1
      clear cX hb1
      go_wp2_with fail
      refine (cY _).mono ?_
      rintro e w2 ⟨rfl, hb2⟩
      have HB2 := hid (HB1.out.trans (hb2.mono HB1.out.size))
      clear cY hb2
      go_wp2_with fail
      go_ret2
      exact ⟨by rw [HQ.out]; rfl, HB2.out⟩
  · have HQ : Hid (q = (rewL (fun c => (fromK a b 0 c, true)) s, true)) := hid (by
      rw [hq, ← rew_swap]
      congr 3
      funext c
      rw [fromK_zero])
    have hz := zero_n
    have hsza : (⟨a.toArray⟩ : ByteArray).size = a.length := by simp [ByteArray.size]
    have hszb : (⟨b.toArray⟩ : ByteArray).size = b.length := by simp [ByteArray.size]
    have hbe : (b ≠ [] ∧ (b == []) = false ∧ b.isEmpty = false) ∨ (b = [] ∧ a = []) := by
      rcases hc with h | h
      · exact .inl ⟨h, by cases b with | nil => exact absurd rfl h | cons _ _ => rfl, by cases b with | nil => exact absurd rfl h | cons _ _ => rfl⟩
      · exact .inr h
    clear hc hq
    have HBN : Hid (0 < a.length → 0 < b.length) := hid (by
      rcases hbe with ⟨h, -, -⟩ | ⟨-, h⟩
      · exact fun _ => List.length_pos_iff.2 h
      · rw [h]; simp)
    have hbf : ((b == []) = false ∧ b.isEmpty = false ∧ True) ∨ ((b == []) = true ∧ b.isEmpty = true ∧ (a == []) = true ∧ a.isEmpty = true ∧ (a != []) = false) := by
      rcases hbe with ⟨-, h1, h2⟩ | ⟨h1, h2⟩
      · exact .inl ⟨h1, h2, trivial⟩
      · exact .inr ⟨by rw [h1]; rfl, by rw [h1]; rfl, by rw [h2]; rfl, by rw [h2]; rfl, by rw [h2]; rfl⟩
    clear hbe
    rcases hbf with ⟨f1, f2, -⟩ | ⟨f1, f2, f3, f4, f5⟩
    all_goals
      go_enter Tryd.func8, Tryd.ntmps8
      go_wp2_with fail
      refine (cX _).mono ?_
      rintro e w1 ⟨rfl, hb1⟩
      have HB1 := hid hb1
      clear cX hb1
      go_wp2_with fail
      refine (cY _).mono ?_
      rintro e w2 ⟨rfl, hb2⟩
      have HB2 := hid (HB1.out.trans (hb2.mono HB1.out.size))
      have hs2 := HB2.out.size
      clear cY hb2
      obtain ⟨N, hN⟩ : ∃ N, w2.heap.size = N := ⟨_, rfl⟩
      go_wp2_with fail
      go_loopw [40] (fun vi wr => ∃ k : Nat, k ≤ 256 ∧ vi = .int .i64 k ∧ Hid (TabT 48 N (fun c => .int .u8 ((if c.toNat < k then c else 0 : UInt8).toNat : Int)) wr) ∧ Hid (Below w.heap.size w wr) ∧ N < wr.heap.size) (fun vi _ => 256 - (intOf vi).toNat)
      case atStart =>
        refine ⟨0, Nat.zero_le _, rfl, hid ?_, hid (HB2.out.alloc hs2 _), by simp; omega⟩
        unfold TabT
        rw [← hN]
        have e : (fun c : UInt8 => Value.int .u8 ((if c.toNat < 0 then c else 0 : UInt8).toNat : Int)) = fun _ => .int .u8 0 := by funext c; simp
        rw [e, tabV_const]
        exact heap_alloc_new w2 _
      case round =>
        obtain ⟨k, hk, rfl, HA, HB, hNr⟩ := hrel
        by_cases hlt : k < 256
        · have hkz : (k.toUInt8).toNat = k := by simp; omega
          have y1 : wr.frozen? ⟨N, k, none⟩ = false := HA.out.frozen _
          obtain ⟨v0, y0⟩ : ∃ v, wr.cell? ⟨N, k, none⟩ = some v := by
            have h := HA.out.cell k.toUInt8
            rw [hkz] at h
            exact ⟨_, h⟩
          have hk8 : IntKind.u8.wrap (k : Int) = (k : Int) := by rw [IntKind.wrap_u8]; omega
          have HA2 : Hid (TabT 48 N (fun c => .int .u8 ((if c.toNat < k + 1 then c else 0 : UInt8).toNat : Int)) (wr.setCell ⟨N, k, none⟩ (.int .u8 k))) := hid (by
            have h := HA.out.set k.toUInt8 (.int .u8 k)
            rw [hkz] at h
            rw [tab_start k hlt]
            exact h)
          have HB2 := hid (HB.out.setCell (p := ⟨N, k, none⟩) (by show w.heap.size ≤ N; omega) (.int .u8 k))
          clear HA HB hkz
          go_wp2_with fail
          go_roundw
          case rel => exact ⟨k + 1, by omega, by go_num, HA2, HB2, by simp; exact hNr⟩
          case measure => simp [intOf]; omega
        · obtain rfl : k = 256 := by omega
          have HA0 : Hid (TabT 48 N (fun c => .int .u8 ((fromK a b (a.length - 0) c).toNat : Int)) wr) := hid (by
            have e : (fun c : UInt8 => Value.int .u8 ((fromK a b (a.length - 0) c).toNat : Int)) = fun c => .int .u8 ((if c.toNat < 256 then c else 0 : UInt8).toNat : Int) := by
              funext c
              rw [Nat.sub_zero, fromK_end, if_pos c.toNat_lt]
            rw [e]
            exact HA.out)
          clear HA
          go_wp2_with fail
          go_loopw [50] (fun vi wr => ∃ k : Nat, k ≤ a.length ∧ vi = .int .i64 k ∧ Hid (TabT 48 N (fun c => .int .u8 ((fromK a b (a.length - k) c).toNat : Int)) wr) ∧ Hid (Below w.heap.size w wr) ∧ N < wr.heap.size) (fun vi _ => a.length - (intOf vi).toNat)
          case atStart => exact ⟨0, Nat.zero_le _, rfl, HA0, HB, hNr⟩
          case round =>
            obtain ⟨k, hk, rfl, HA, HB, hNr⟩ := hrel
            clear HA0
            by_cases hlt : k < a.length
            · obtain ⟨p, hp⟩ : ∃ p, a.length - 1 - k = p := ⟨_, rfl⟩
              have hpl : p < a.length := by omega
              have hpi : (a.length : Int) - 1 - (k : Int) = (p : Int) := by omega
              have hb0 := HBN.out (by omega)
              obtain ⟨z, hze⟩ : ∃ z, a[p] = z := ⟨_, rfl⟩
              have hg : ∀ h, (⟨a.toArray⟩ : ByteArray)[p]'h = z := fun h => by rw [← hze]; simp [ByteArray.getElem_eq_getElem_data]
              obtain ⟨m, hm⟩ : ∃ m, min p (b.length - 1) = m := ⟨_, rfl⟩
              have hml : m < b.length := by omega
              have hmi : min (p : Int) ((b.length : Int) - 1) = (m : Int) := by omega
              obtain ⟨y, hye⟩ : ∃ y, b[m] = y := ⟨_, rfl⟩
              have hg2 : ∀ h, (⟨b.toArray⟩ : ByteArray)[m]'h = y := fun h => by rw [← hye]; simp [ByteArray.getElem_eq_getElem_data]
              have hzl := z.toNat_lt
              have y1 : wr.frozen? ⟨N, z.toNat, none⟩ = false := HA.out.frozen _
              have y0 := HA.out.cell z
              generalize (Value.int .u8 ((fromK a b (a.length - k) z).toNat : Int)) = v0 at y0
              have HA2 : Hid (TabT 48 N (fun c => .int .u8 ((fromK a b (a.length - (k + 1)) c).toNat : Int)) (wr.setCell ⟨N, z.toNat, none⟩ (.int .u8 y.toNat))) := hid (by
                have h := HA.out.set z (.int .u8 y.toNat)
                have e : (fun c : UInt8 => Value.int .u8 ((fromK a b (a.length - (k + 1)) c).toNat : Int)) = fun x => if x = z then .int .u8 y.toNat else .int .u8 ((fromK a b (a.length - k) x).toNat : Int) := by
                  funext c
                  rw [show a.length - (k + 1) = p by omega, fromK_step a b p hpl, hze, show p + 1 = a.length - k by omega, hm, List.getD_eq_getElem?_getD, List.getElem?_eq_getElem hml, hye]
                  by_cases hc : c = z
                  · rw [if_pos hc, if_pos hc]; rfl
                  · rw [if_neg hc, if_neg hc]
                rw [e]
                exact h)
              have HB2 := hid (HB.out.setCell (p := ⟨N, z.toNat, none⟩) (by show w.heap.size ≤ N; omega) (.int .u8 y.toNat))
              clear hze hye HA HB hp hm
              go_wp2_with fail
              go_region
              all_goals
                go_wp2_with fail
                go_roundw
                case rel => exact ⟨k + 1, by omega, by go_num, HA2, hid (HB2.out.drew), by simp; exact hNr⟩
                case measure => simp [intOf]; omega
            · obtain rfl : k = a.length := by omega
              have hA := HA.out
              rw [Nat.sub_self] at hA
              have cR := rewritten_any 26 #[.pointer (some ⟨N, 0, none⟩)] (enters_of Tryd.func26 (by kernel_rfl) rfl) (fun c => (fromK a b 0 c, true)) N s wr hs hNr
                (fun c W hW => swap_fn N (fromK a b 0) c W (by unfold TabT at hA ⊢; rw [hW]; exact hA))
              have hNs := HB.out.size
              clear HA hA
              go_wp2_with fail
              refine cR.mono ?_
              rintro e w3 ⟨rfl, hb3⟩
              have HB3 := hid (HB.out.trans (hb3.mono hNs))
              clear cR hb3
              go_wp2_with fail
              go_ret2
              exact ⟨by rw [HQ.out]; rfl, HB3.out⟩
end Go.Proofs.YtfeedppodffheaaDoor
