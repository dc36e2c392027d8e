/- What the statement of Own13Said leans on, part 6: LxT, LxP, LxQ, LxS, LxU, LxV, Dig, LxW, LxX, LxY. Conditions: each theorem's own. -/
import Derived.Test.YtialepcdbpofkaaGreatKOE
namespace Go.Proofs.YtialepcdbpofkaaGreat
open Go.RowKit
open Go.Lib (hid)
set_option maxHeartbeats 1000000 in
theorem pass_back (s : ByteArray) (p : Nat) (hs : s.size ≤ 9007199254740992) (hp : p < s.size) (hc : s[p] = 92) : PassOk s p (min (p + 2) s.size) := by
  intro W
  have hpi : (p : Int) < (s.size : Int) := by omega
  have hp0 : (0 : Int) ≤ (p : Int) := by omega
  have hsi : (s.size : Int) ≤ 9007199254740992 := by omega
  have hmin : (((min (p + 2) s.size : Nat)) : Int) = min ((p : Int) + 2) (s.size : Int) := by omega
  have hmn := hid hmin
  clear hmin
  generalize (min (p + 2) s.size) = q at *
  go_enter Tryz.func30, Tryz.ntmps30
  go_wp2_with fail
  go_ret
  refine ⟨?_, 0, rfl⟩
  rw [hmn.out]
  first
    | rfl
    | trace_state
inductive Dq (s : ByteArray) : Nat → Nat → Nat → Prop
  | fin (i : Nat) (h : s.size ≤ i) : Dq s 0 i s.size
  | hit (i : Nat) (hp : i < s.size) (hc : s[i] = 34) : Dq s 0 i (i + 1)
  | step (n i q : Nat) (hp : i < s.size) (hne : s[i] ≠ 34) (hr : Dq s n (if s[i] = 92 then i + 2 else i + 1) q) : Dq s (n + 1) i q
theorem dq_any (s : ByteArray) : ∀ (m i : Nat), s.size - i ≤ m → ∃ n q, Dq s n i q ∧ q ≤ s.size ∧ min i s.size ≤ q
  | 0, i, h => ⟨0, s.size, .fin i (by omega), Nat.le_refl _, Nat.min_le_right _ _⟩
  | m + 1, i, h => by
    by_cases hp : i < s.size
    · by_cases hc : s[i] = 34
      · exact ⟨0, i + 1, .hit i hp hc, by omega, by omega⟩
      · obtain ⟨n, q, h1, h2, h3⟩ := dq_any s m (if s[i] = 92 then i + 2 else i + 1) (by split <;> omega)
        refine ⟨n + 1, q, .step n i q hp hc h1, h2, ?_⟩
        have : i ≤ min (if s[i] = 92 then i + 2 else i + 1) s.size := by split <;> omega
        omega
    · exact ⟨0, s.size, .fin i (by omega), Nat.le_refl _, Nat.min_le_right _ _⟩
set_option maxRecDepth 100000 in
set_option maxHeartbeats 4000000 in
theorem pass_double (s : ByteArray) (p q n : Nat) (hs : s.size ≤ 9007199254740992) (hp : p < s.size) (hc : s[p] = 34) (h : Dq s n (p + 1) q) : PassOk s p q := by
  intro W
  have hpi : (p : Int) < (s.size : Int) := by omega
  have hp0 : (0 : Int) ≤ (p : Int) := by omega
  have hsi : (s.size : Int) ≤ 9007199254740992 := by omega
  have HD := hid h
  clear h
  go_enter Tryz.func30, Tryz.ntmps30
  go_wp2_with fail
  go_loopg [1] n (fun k v1 wr => ∃ i : Nat, v1 = .int .i64 i ∧ i ≤ s.size + 1 ∧ Hid (Dq s k i q) ∧ wr = W)
  case atStart => exact ⟨p + 1, by go_num, by omega, HD, rfl⟩
  case round =>
    obtain ⟨i, rfl, his, HC, hwr⟩ := hrel
    have hwr := hwr.symm
    subst hwr
    have hi0 : (0 : Int) ≤ (i : Int) := by omega
    have hil : (i : Int) ≤ 9007199254740993 := by omega
    rcases HC.out with ⟨_, hi⟩ | ⟨_, hi, hci⟩ | ⟨k, _, _, hi, hne, hr⟩
    · clear HC HD
      have hii : ¬ (i : Int) < (s.size : Int) := by omega
      have hmn := hid (show min ((i : Int) + 1) (s.size : Int) = (s.size : Int) by omega)
      go_wp2_with fail
      go_ret
      refine ⟨?_, 0, rfl⟩
      show Ending.returned (.int .i64 (min ((i : Int) + 1) (s.size : Int))) = _
      rw [hmn.out]
    · have hii : (i : Int) < (s.size : Int) := by omega
      have hmn := hid (show min ((i : Int) + 1) (s.size : Int) = (i : Int) + 1 by omega)
      clear HC HD
      go_wp2_with fail
      go_ret
      refine ⟨?_, 0, rfl⟩
      show Ending.returned (.int .i64 (min ((i : Int) + 1) (s.size : Int))) = _
      rw [hmn.out]
    · have hii : (i : Int) < (s.size : Int) := by omega
      obtain ⟨c, hci⟩ : ∃ c, s[i] = c := ⟨_, rfl⟩
      rw [hci] at hne hr
      have g34 : ((c.toNat : Int) == 34) = false := u8_ne hne
      have HR := hid hr
      clear HC HD hr hne
      by_cases h92 : c = 92
      · have g92 : ((c.toNat : Int) == 92) = true := by rw [h92]; rfl
        have HR2 : Hid (Dq s k (i + 2) q) := hid (by have := HR.out; rwa [if_pos h92] at this)
        clear h92 HR
        go_wp2_with fail
        go_roundg k
        case rel => exact ⟨i + 2, by go_num, by omega, HR2, rfl⟩
        case measure => exact Nat.lt_succ_self k
      · have g92 : ((c.toNat : Int) == 92) = false := u8_ne h92
        have HR2 : Hid (Dq s k (i + 1) q) := hid (by have := HR.out; rwa [if_neg h92] at this)
        clear h92 HR
        go_wp2_with fail
        go_roundg k
        case rel => exact ⟨i + 1, by go_num, by omega, HR2, rfl⟩
        case measure => exact Nat.lt_succ_self k
theorem inside_at (s : ByteArray) (p : Nat) (hp : p ≤ s.size) (w : World) : Calls Tryz.prog 18 #[.string s, .int .i64 p] w fun e w' => e = .returned (.int .i64 p) ∧ w' = w := by
  have h0 : (0 : Int) ≤ (p : Int) := by omega
  have hmx := hid (show min (p : Int) (s.size : Int) = (p : Int) by omega)
  go_enter Tryz.func18, Tryz.ntmps18
  go_wp2_with fail
  go_ret
  refine ⟨?_, rfl⟩
  show Ending.returned (.int .i64 (min (p : Int) (s.size : Int))) = _
  rw [hmx.out]
set_option maxRecDepth 100000 in
set_option maxHeartbeats 4000000 in
theorem closed_at (s : ByteArray) (hs : s.size ≤ 9007199254740992) (n p0 r : Nat) (hp0s : p0 ≤ s.size) (e0 : Int) (h : Cl s n p0 0 r e0) (w : World) :
    Calls Tryz.prog 15 #[.string s, .int .i64 p0] w fun e w' => e = .returned (.tuple #[.int .i64 r, .int .i64 e0]) ∧ ∃ n, w' = w.drewN n := by
  have cI := fun W => inside_at s p0 hp0s W
  go_enter Tryz.func15, Tryz.ntmps15
  go_wp2_with (go_at_call 18; (with_reducible refine (cI _).mono ?_); rintro e w1 ⟨rfl, hw⟩; have hw := hw.symm; subst hw)
  go_loopg [1, 6] n (fun k v1 v6 wr => ∃ p o : Nat, v1 = .int .i64 p ∧ v6 = .int .i64 o ∧ o ≤ p ∧ p ≤ s.size ∧ Hid (Cl s k p o r e0) ∧ ∃ m, wr = w.drewN m)
  case atStart => exact ⟨p0, 0, rfl, rfl, Nat.zero_le _, hp0s, hid h, 0, rfl⟩
  case round =>
    obtain ⟨p, o, rfl, rfl, hop, hps, HC, m, rfl⟩ := hrel
    have hp0 : (0 : Int) ≤ (p : Int) := by omega
    have ho0 : (0 : Int) ≤ (o : Int) := by omega
    have hoi : (o : Int) ≤ 9007199254740992 := by omega
    have hsi : (s.size : Int) ≤ 9007199254740992 := by omega
    rcases HC.out with ⟨_⟩ | ⟨_, hp, hc⟩ | ⟨k, _, q, _, _, _, hp, ho, hq, hlt, hle, hr⟩
    · clear HC h
      go_wp2_with fail
      go_ret2
      exact ⟨rfl, _, rfl⟩
    · have hpi : (r : Int) < (s.size : Int) := by omega
      clear HC h
      go_wp2_with fail
      go_ret2
      exact ⟨rfl, _, rfl⟩
    · have hpi : (p : Int) < (s.size : Int) := by omega
      obtain ⟨c, hc⟩ : ∃ c, s[p] = c := ⟨_, rfl⟩
      rw [hc] at ho hr
      have cP := fun m => hq (w.drewN m)
      have HR := hid hr
      clear HC h hr hq
      by_cases h40 : c = 40
      · have g40 : ((c.toNat : Int) == 40) = true := by rw [h40]; rfl
        have HO : Hid (openNext c o = o + 1) := hid (by unfold openNext; rw [if_pos h40])
        clear h40 ho
        go_wp2_with (go_at_call 30; (with_reducible refine (cP _).mono ?_); rintro e w1 ⟨rfl, m2, rfl⟩)
        go_roundg k
        case rel => exact ⟨q, o + 1, rfl, by go_num, by omega, hle, hid (by have := HR.out; rwa [HO.out] at this), _, rfl⟩
        case measure => exact Nat.lt_succ_self k
      · have g40 : ((c.toNat : Int) == 40) = false := u8_ne h40
        by_cases h41 : c = 41
        · have g41 : ((c.toNat : Int) == 41) = true := by rw [h41]; rfl
          have hopos := ho h41
          have HO : Hid (openNext c o = o - 1) := hid (by unfold openNext; rw [if_neg h40, if_pos h41])
          have go0 : ((o : Int) == 0) = false := by simp; omega
          have ho1 : (((o - 1 : Nat)) : Int) = (o : Int) - 1 := by omega
          have HO1 := hid ho1
          clear h40 h41 ho ho1
          go_wp2_with (go_at_call 30; (with_reducible refine (cP _).mono ?_); rintro e w1 ⟨rfl, m2, rfl⟩)
          go_roundg k
          case rel => exact ⟨q, o - 1, rfl, by rw [HO1.out], by omega, hle, hid (by have := HR.out; rwa [HO.out] at this), _, rfl⟩
          case measure => exact Nat.lt_succ_self k
        · have g41 : ((c.toNat : Int) == 41) = false := u8_ne h41
          have HO : Hid (openNext c o = o) := hid (by unfold openNext; rw [if_neg h40, if_neg h41])
          clear h40 h41 ho
          go_wp2_with (go_at_call 30; (with_reducible refine (cP _).mono ?_); rintro e w1 ⟨rfl, m2, rfl⟩)
          go_roundg k
          case rel => exact ⟨q, o, rfl, rfl, by omega, hle, hid (by have := HR.out; rwa [HO.out] at this), _, rfl⟩
          case measure => exact Nat.lt_succ_self k
theorem pass_any (s : ByteArray) (hs : s.size ≤ 9007199254740992) (p : Nat) (hp : p < s.size) : ∃ q, PassOk s p q ∧ p < q ∧ q ≤ s.size := by
  by_cases h92 : s[p] = 92
  · exact ⟨_, pass_back s p hs hp h92, by omega, Nat.min_le_right _ _⟩
  · by_cases h39 : s[p] = 39
    · exact ⟨_, pass_quote s p hs hp h39, by omega, Nat.min_le_right _ _⟩
    · by_cases h34 : s[p] = 34
      · obtain ⟨n, q, h1, h2, h3⟩ := dq_any s (s.size - (p + 1)) (p + 1) (Nat.le_refl _)
        exact ⟨q, pass_double s p q n hs hp h34 h1, by omega, h2⟩
      · exact ⟨p + 1, pass_plain s p hs hp _ rfl h92 h39 h34, by omega, by omega⟩
theorem cl_any (s : ByteArray) (hs : s.size ≤ 9007199254740992) : ∀ (m p o : Nat), s.size - p ≤ m → p ≤ s.size → ∃ n r e, Cl s n p o r e ∧ ((e = 0 ∧ p ≤ r ∧ r < s.size) ∨ (e = 8 ∧ r = s.size))
  | 0, p, o, h, hp => by
    have : p = s.size := by omega
    subst this
    exact ⟨0, _, 8, .fin o, .inr ⟨rfl, rfl⟩⟩
  | m + 1, p, o, h, hps => by
    by_cases hp : p < s.size
    · by_cases hc : s[p] = 41 ∧ o = 0
      · obtain ⟨hc, rfl⟩ := hc
        exact ⟨0, p, 0, .hit p hp hc, .inl ⟨rfl, Nat.le_refl _, hp⟩⟩
      · obtain ⟨q, h1, h2, h3⟩ := pass_any s hs p hp
        obtain ⟨n, r, e, k1, k2⟩ := cl_any s hs m q (openNext s[p] o) (by omega) h3
        refine ⟨n + 1, r, e, .step n p q o r e hp (fun h => Nat.pos_of_ne_zero (fun h0 => hc ⟨h, h0⟩)) h1 h2 h3 k1, ?_⟩
        rcases k2 with ⟨a, b, c⟩ | h
        · exact .inl ⟨a, by omega, c⟩
        · exact .inr h
    · have : p = s.size := by omega
      subst this
      exact ⟨0, _, 8, .fin o, .inr ⟨rfl, rfl⟩⟩
end Go.Proofs.YtialepcdbpofkaaGreat
namespace Go.Proofs.YtialepcdbpofkaaGreat
open Go.RowKit
open Go.Lib (hid)
theorem info_bldr : (Tryz.prog.info? 61).map (·.size) = some 2 := by kernel_rfl
theorem lies_bldr : liesAt Tryz.prog Tryz.prog.depth 61 (2 / Tryz.prog.cellsOf 61) 0 61 1 = true := by kernel_rfl
set_option maxHeartbeats 1000000 in
set_option maxRecDepth 100000 in
theorem bcheck_used (b : Nat) (w : World) (h0 : w.cell? ⟨b, 0, none⟩ = some (.pointer (some ⟨b, 0, none⟩))) :
    Calls Tryz.prog 39 #[.pointer (some ⟨b, 0, none⟩)] w fun e w' => e = .returned (.tuple #[]) ∧ w' = w := by
  obtain ⟨j, hj, _⟩ := Option.map_eq_some_iff.1 info_bldr
  go_enter Tryz.func39, Tryz.ntmps39
  go_wp2
  rw [Lib.run_neq_ptr_same w _ Tryz.underlying58 hj]
  go_wp2
  go_end0
  exact ⟨rfl, rfl⟩
set_option maxHeartbeats 1000000 in
set_option maxRecDepth 100000 in
theorem bcheck_fresh (b : Nat) (w : World) (h0 : w.cell? ⟨b, 0, none⟩ = some (.pointer none)) (hsh : w.shape? b = some (61, 2)) (hfz : w.frozen? ⟨b, 0, none⟩ = false) :
    Calls Tryz.prog 39 #[.pointer (some ⟨b, 0, none⟩)] w fun e w' => e = .returned (.tuple #[]) ∧ w' = w.setCell ⟨b, 0, none⟩ (.pointer (some ⟨b, 0, none⟩)) := by
  obtain ⟨j, hj, hjs⟩ := Option.map_eq_some_iff.1 info_bldr
  go_enter Tryz.func39, Tryz.ntmps39
  go_wp2
  rw [Lib.run_to_unsafe w ⟨b, 0, none⟩ Tryz.underlying58 Tryz.underlying87 hj (by rw [hjs]; decide) hsh (Nat.zero_lt_succ 1)]
  simp only [Result.andThen]
  rw [Oper.upon_value]
  go_wp2
  rw [run_callFunc_extern Tryz.func53 (by kernel_rfl) (by kernel_rfl) (by kernel_rfl) (e := Extern.AbiNoEscape.same) (by kernel_rfl)]
  rw [Lib.run_noEscape]
  simp only [Result.andThen]
  rw [Oper.upon_value]
  go_wp2
  rw [Lib.run_from_unsafe w ⟨b, 0, none⟩ Tryz.underlying87 Tryz.underlying58 hj hsh lies_bldr]
  simp only [Result.andThen]
  rw [Oper.upon_value]
  go_wp2
  go_end0
  exact ⟨rfl, rfl⟩
abbrev Bdr (B b : Nat) (l : List UInt8) (w : World) : Prop := Lib.IsBuilder 61 5 B b (Lib.byteCells l) w
theorem Bdr.below {B b : Nat} {l : List UInt8} {w w' : World} (h : Bdr B b l w) (hb : Below w.heap.size w w') : Bdr B b l w' := by
  rcases h with ⟨hB, v, hbk, hown, hne⟩ | ⟨hB, v, hbk, hown, hne⟩
  · exact .inl ⟨hB, v, (hb.block b (lt_of_block hbk)).trans hbk, own_below hown hb, hne⟩
  · exact .inr ⟨hB, v, (hb.block b (lt_of_block hbk)).trans hbk, own_below hown hb, hne⟩
theorem bcheck_any (B b : Nat) (l : List UInt8) (w : World) (h : Bdr B b l w) :
    Calls Tryz.prog 39 #[.pointer (some ⟨b, 0, none⟩)] w fun e w' => e = .returned (.tuple #[]) ∧ Lib.BuilderAt 61 5 B b (.pointer (some ⟨b, 0, none⟩)) (Lib.byteCells l) w' ∧ Below B w w' := by
  rcases h with hA | h
  · refine (bcheck_fresh b w hA.cell0 hA.shape hA.frozen0).mono ?_
    rintro e w' ⟨rfl, rfl⟩
    exact ⟨rfl, hA.used _, (Below.refl B w).setCell (p := ⟨b, 0, none⟩) hA.1 _⟩
  · refine (bcheck_used b w h.cell0).mono ?_
    rintro e w' ⟨rfl, rfl⟩
    exact ⟨rfl, h, Below.refl B _⟩
set_option maxHeartbeats 2000000 in
set_option maxRecDepth 100000 in
theorem wstr_any (B b : Nat) (l s : List UInt8) (w : World) (h : Bdr B b l w) (hlen : l.length + s.length ≤ 140737488355328) (hBw : B ≤ w.heap.size) :
    Calls Tryz.prog 26 #[.pointer (some ⟨b, 0, none⟩), encS s] w fun e w' => e = .returned (.tuple #[.int .i64 s.length, .nilIface]) ∧ Bdr B b (l ++ s) w' ∧ Below B w w' := by
  obtain ⟨i0, hi, hz0, hz1, hz2⟩ := info_parts info_u8
  have cC := bcheck_any B b l w h
  have hsz : (⟨s.toArray⟩ : ByteArray).size = s.length := by simp [ByteArray.size]
  have H63 : l.length + (⟨s.toArray⟩ : ByteArray).size ≤ maxLen := by rw [hsz]; unfold maxLen; omega
  have H47 : l.length + (⟨s.toArray⟩ : ByteArray).size ≤ 140737488355328 := by rw [hsz]; omega
  have HSC := hid (show Lib.byteCells l ++ Lib.strCells ⟨s.toArray⟩ = Lib.byteCells (l ++ s) by simp [Lib.strCells, Lib.byteCells])
  have hsx := hid hsz
  clear hsz
  go_enter Tryz.func26, Tryz.ntmps26
  go_wp2_with fail
  refine cC.mono ?_
  rintro e w1 ⟨rfl, ⟨hB, v, hbk, hown, hne⟩, hb1⟩
  rw [Lib.byteCells_length] at hown
  have c0 : w1.cell? ⟨b, 0, none⟩ = some (.pointer (some ⟨b, 0, none⟩)) := by rw [Lib.cell_of_heap hbk]; rfl
  have c1 : w1.cell? ⟨b, 1, none⟩ = some v := by rw [Lib.cell_of_heap hbk]; rfl
  have hs1 := hb1.size
  have HBw : B ≤ w1.heap.size := by omega
  clear cC h
  go_wp2_with (at_builtin; refine Lib.wpList_append_own_string _ rfl _ _ 59 9 rfl B 5 i0 Tryz.underlying59 Tryz.underlying9 hi hz0 hz1 hz2 _ _ _ rfl hown ⟨s.toArray⟩ rfl H63 H47 HBw ?_; intro v' w2 hown' hgrow hnn; obtain ⟨ao, cap, rfl, -⟩ := own_form hown'; have hb2 : w2.heap[b]? = some (.cells #[.pointer (some ⟨b, 0, none⟩), v] 61 (0, 0)) := (hgrow.block b (lt_of_block hbk) (fun e => hne e.symm)).trans hbk; have d1 : w2.cell? ⟨b, 1, none⟩ = some v := (by rw [Lib.cell_of_heap hb2]; rfl); have f1 : w2.frozen? ⟨b, 1, none⟩ = false := Lib.frozen_of_heap hb2 1; have HNN := hid hnn; clear hnn)
  have hown2 : w2.ownsRow B 5 1 (.slice ao (l.length + (⟨s.toArray⟩ : ByteArray).size) cap) (Lib.byteCells (l ++ s)).length (Lib.byteCells (l ++ s)) := by
    rw [← HSC.out]
    rw [show (Lib.byteCells l ++ Lib.strCells ⟨s.toArray⟩).length = l.length + (⟨s.toArray⟩ : ByteArray).size by rw [List.length_append, Lib.byteCells_length, Lib.strCells_length]]
    exact hown'
  rw [hsx.out] at hown2
  have HR := hid (show Bdr B b (l ++ s) (w2.setCell ⟨b, 1, none⟩ (.slice ao (l.length + s.length) cap)) from .inr (Lib.BuilderAt.put (T := 61) (e := 5) hB hb2 (bs' := Lib.byteCells (l ++ s)) hown2 (by decide)))
  have HB := hid (((hb1.grown hgrow (by omega) (fun k hk => (hown.lt k hk).1)).setCell (p := ⟨b, 1, none⟩) hB (.slice ao (l.length + s.length) cap)))
  clear hown hown' hown2 hgrow hbk hb2 hne hb1
  go_ret2
  exact ⟨rfl, HR.out, HB.out⟩
def textL (l : List Pt) : List UInt8 := l.flatMap fun p => if p.kind == 1 then p.text else []
theorem textL_take (l : List Pt) (k : Nat) (hk : k < l.length) : textL (l.take (k + 1)) = textL (l.take k) ++ (if l[k].kind == 1 then l[k].text else []) := by
  rw [List.take_succ_eq_append_getElem hk]
  unfold textL
  rw [List.flatMap_append]
  simp only [List.flatMap_cons, List.flatMap_nil, List.append_nil]
theorem textL_le (l : List Pt) (k : Nat) : (textL (l.take k)).length ≤ (textL l).length := by
  have h : textL l = textL (l.take k) ++ textL (l.drop k) := by
    conv => lhs; rw [← List.take_append_drop k l]
    simp only [textL, List.flatMap_append]
  rw [h, List.length_append]; omega
set_option maxHeartbeats 4000000 in
set_option maxRecDepth 100000 in
theorem text_any (A : Option Addr) (c : Nat) (l : List Pt) (w : World) (hsrc : SrcP w A l) (hlc : l.length ≤ 1099511627776) (ht : (textL l).length ≤ 140737488355328) :
    Calls Tryz.prog 13 #[.agg #[.slice A l.length c]] w fun e w' => e = .returned (encS (textL l)) ∧ Below w.heap.size w w' := by
  go_enter Tryz.func13, Tryz.ntmps13
  have hs0 : ((w.alloc (.cells #[.slice A l.length c] 25)).alloc (.cells #[.pointer none, .slice none 0 0] 61)).heap.size = w.heap.size + 2 := by simp
  have hb0 : Bdr w.heap.size (w.heap.size + 1) [] ((w.alloc (.cells #[.slice A l.length c] 25)).alloc (.cells #[.pointer none, .slice none 0 0] 61)) := by
    have := heap_alloc_new (w.alloc (.cells #[.slice A l.length c] 25)) (.cells #[.pointer none, .slice none 0 0] 61)
    simp only [World.size_alloc] at this
    exact .inl ⟨by omega, .slice none 0 0, this, World.ownsRow_nil _ _ _ _, by simp [Value.ownBlock]⟩
  have hbl0 : Below w.heap.size w ((w.alloc (.cells #[.slice A l.length c] 25)).alloc (.cells #[.pointer none, .slice none 0 0] 61)) := ((Below.refl _ _).alloc (Nat.le_refl _) _).alloc (by simp) _
  have HSR := hid hsrc
  clear hsrc
  go_wp2_with fail
  go_loopw [9] (fun vi wr => ∃ k : Nat, vi = .int .i64 k ∧ k ≤ l.length ∧ Hid (Bdr w.heap.size (w.heap.size + 1) (textL (l.take k)) wr) ∧ Hid (Below w.heap.size w wr)) (fun vi _ => l.length - (intOf vi).toNat)
  case atStart => exact ⟨0, rfl, Nat.zero_le _, hid hb0, hid hbl0⟩
  case round =>
    obtain ⟨k, rfl, hk, HB, HL⟩ := hrel
    by_cases hlt : k < l.length
    · obtain ⟨g, o, rfl, hrng0⟩ := HSR.out k hlt
      have htk := textL_take l k hlt
      have htl := textL_le l (k + 1)
      obtain ⟨p, hp⟩ : ∃ p, l[k] = p := ⟨_, rfl⟩
      rw [hp] at hrng0 htk
      have hrng : wr.rangeAt g (o + k * 10) (cellsPt p) := fun j v hv => cell_below HL.out (hrng0 j v hv)
      obtain ⟨kind, text, name, op, q, wd, mo, su, li, pl⟩ := p
      simp only at htk
      have hkz : (k : Int) < (l.length : Int) := by omega
      have hk0 : (0 : Int) ≤ (k : Int) := by omega
      have hob := heap_alloc_new wr (ptObj kind text name op q wd mo su li pl)
      have hb1 : Below wr.heap.size wr (wr.alloc (ptObj kind text name op q wd mo su li pl)) := (Below.refl _ _).alloc (Nat.le_refl _) _
      have hbd := HB.out.below hb1
      have hbl := HL.out.trans (hb1.mono HL.out.size)
      have hNs : w.heap.size ≤ (wr.alloc (ptObj kind text name op q wd mo su li pl)).heap.size := hbl.size
      have p0 : (wr.alloc (ptObj kind text name op q wd mo su li pl)).cell? ⟨wr.heap.size, 0, none⟩ = some (.int .i64 kind) := by rw [Lib.cell_of_heap hob]; rfl
      have p1 : (wr.alloc (ptObj kind text name op q wd mo su li pl)).cell? ⟨wr.heap.size, 1, none⟩ = some (encS text) := by rw [Lib.cell_of_heap hob]; rfl
      have HR := hid hrng
      have HBL := hid hbl
      clear hrng hrng0 hob hb1 hbl
      generalize hW0 : wr.alloc (ptObj kind text name op q wd mo su li pl) = W0 at *
      cases hk1 : (kind == 1)
      · rw [hk1] at htk
        have HT := hid htk
        have HBD := hid hbd
        clear htk hbd
        go_wp2_with (refine wpList_load_mid rfl 34 (.tmp 11) rfl g (o + k * 10) rfl (cellsPt ⟨kind, text, name, op, q, wd, mo, su, li, pl⟩) _ HR.out Tryz.underlying34 rfl (by rw [info_ptsize]; rfl) ?_; show wpList _ _ _ _ (Act.put _ _ (.agg #[.int .i64 kind, encS text, encS name, encS op, .bool q, .slice wd.a wd.n wd.c, .slice mo.a mo.n mo.c, .slice su.a su.n su.c, .slice li.a li.n li.c, .int .i64 pl])) _)
        all_goals
          go_roundw
          case rel =>
            refine ⟨k + 1, by go_num, by omega, hid ?_, HBL⟩
            have h := HT.out
            simp only [Bool.false_eq_true, if_false, List.append_nil] at h
            rw [h]; exact HBD.out
          case measure => simp [intOf]; omega
      · rw [hk1] at htk
        simp only [if_true] at htk
        have hlen : (textL (l.take k)).length + text.length ≤ 140737488355328 := by rw [← List.length_append, ← htk]; omega
        have cW := wstr_any w.heap.size (w.heap.size + 1) (textL (l.take k)) text W0 hbd hlen hNs
        have HT := hid htk
        clear htk hbd
        go_wp2_with (first
          | (go_at_call 26; (with_reducible refine cW.mono ?_); rintro e w2 ⟨rfl, hbd2, hbl2⟩)
          | (refine wpList_load_mid rfl 34 (.tmp 11) rfl g (o + k * 10) rfl (cellsPt ⟨kind, text, name, op, q, wd, mo, su, li, pl⟩) _ HR.out Tryz.underlying34 rfl (by rw [info_ptsize]; rfl) ?_; show wpList _ _ _ _ (Act.put _ _ (.agg #[.int .i64 kind, encS text, encS name, encS op, .bool q, .slice wd.a wd.n wd.c, .slice mo.a mo.n mo.c, .slice su.a su.n su.c, .slice li.a li.n li.c, .int .i64 pl])) _))
        all_goals
          go_roundw
          case rel => exact ⟨k + 1, by go_num, by omega, hid (by rw [HT.out]; exact hbd2), hid (HBL.out.trans hbl2)⟩
          case measure => simp [intOf]; omega
    · have e : k = l.length := by omega
      subst e
      rw [List.take_length] at HB
      have cS := Tryz.Builder_String_any w.heap.size (w.heap.size + 1) (textL l) wr HB.out HL.out.size
      go_wp2_with (go_at_call 27; (with_reducible refine cS.mono ?_); rintro e w2 ⟨rfl, hbl2⟩)
      go_ret
      exact ⟨rfl, HL.out.trans hbl2⟩
end Go.Proofs.YtialepcdbpofkaaGreat
namespace Go.Proofs.YtialepcdbpofkaaGreat
open Go.RowKit
open Go.Lib (hid)
abbrev aggPt (kind : Int) (text name op : List UInt8) (q : Bool) (wd mo su li : Sl) (pl : Int) : Value := .agg #[.int .i64 kind, encS text, encS name, encS op, .bool q, .slice wd.a wd.n wd.c, .slice mo.a mo.n mo.c, .slice su.a su.n su.c, .slice li.a li.n li.c, .int .i64 pl]
def aggP (p : Pt) : Value := aggPt p.kind p.text p.name p.op p.q p.wd p.mo p.su p.li p.pl
theorem SrcP.below {w w' : World} {A : Option Addr} {l : List Pt} (h : SrcP w A l) (hb : Below w.heap.size w w') : SrcP w' A l := fun k hk => by
  obtain ⟨g, o, e, hr⟩ := h k hk
  exact ⟨g, o, e, fun j v hv => cell_below hb (hr j v hv)⟩
end Go.Proofs.YtialepcdbpofkaaGreat
namespace Go.Proofs.YtialepcdbpofkaaGreat
open Go.RowKit
open Go.Lib (hid)
def tenSet (W : World) (b : Nat) (kind : Int) (text name op : List UInt8) (q : Bool) (wd mo su li : Sl) (pl : Int) : World :=
  (((((((((W.setCell ⟨b, 0, none⟩ (.int .i64 kind)).setCell ⟨b, 1, none⟩ (encS text)).setCell ⟨b, 2, none⟩ (encS name)).setCell ⟨b, 3, none⟩ (encS op)).setCell ⟨b, 4, none⟩ (.bool q)).setCell ⟨b, 5, none⟩ (.slice wd.a wd.n wd.c)).setCell ⟨b, 6, none⟩ (.slice mo.a mo.n mo.c)).setCell ⟨b, 7, none⟩ (.slice su.a su.n su.c)).setCell ⟨b, 8, none⟩ (.slice li.a li.n li.c)).setCell ⟨b, 9, none⟩ (.int .i64 pl)
theorem tenSet_heap {W : World} {b : Nat} (h : W.heap[b]? = some zeroO) (kind : Int) (text name op : List UInt8) (q : Bool) (wd mo su li : Sl) (pl : Int) : (tenSet W b kind text name op q wd mo su li pl).heap[b]? = some (ptObj kind text name op q wd mo su li pl) := by
  have h0 := heap_setCell_same W b 0 _ _ (.int .i64 kind) h
  have h1 := heap_setCell_same _ b 1 _ _ (encS text) h0
  have h2 := heap_setCell_same _ b 2 _ _ (encS name) h1
  have h3 := heap_setCell_same _ b 3 _ _ (encS op) h2
  have h4 := heap_setCell_same _ b 4 _ _ (.bool q) h3
  have h5 := heap_setCell_same _ b 5 _ _ (.slice wd.a wd.n wd.c) h4
  have h6 := heap_setCell_same _ b 6 _ _ (.slice mo.a mo.n mo.c) h5
  have h7 := heap_setCell_same _ b 7 _ _ (.slice su.a su.n su.c) h6
  have h8 := heap_setCell_same _ b 8 _ _ (.slice li.a li.n li.c) h7
  have h9 := heap_setCell_same _ b 9 _ _ (.int .i64 pl) h8
  unfold tenSet
  rw [h9]
  simp only [List.setIfInBounds_toArray, List.set_cons_zero, List.set_cons_succ]
end Go.Proofs.YtialepcdbpofkaaGreat
namespace Go.Proofs.YtialepcdbpofkaaGreat
open Go.RowKit
open Go.Lib (hid)
set_option maxRecDepth 100000 in
set_option maxHeartbeats 1000000 in
theorem closedR_ok (s : ByteArray) (bash : Bool) (p d fr r n : Nat) (hs : s.size ≤ 9007199254740992) (hfr : fr ≤ s.size) (h : Cl s n fr 0 r 0) (B : Nat) (w : World) (hr : LRd w B s bash p d) :
    Calls Tryz.prog 63 #[.pointer (some ⟨B, 0, none⟩), .int .i64 fr] w fun e w' => e = .returned (.int .i64 r) ∧ ∃ m, w' = w.drewN m := by
  have c0 := hr.c0
  have cC := fun W => closed_at s hs n fr r hfr 0 h W
  clear h
  go_enter Tryz.func63, Tryz.ntmps63
  go_wp2_with (go_at_call 15; (with_reducible refine (cC _).mono ?_); rintro e w1 ⟨rfl, m, rfl⟩)
  go_ret
  exact ⟨rfl, _, rfl⟩
set_option maxRecDepth 100000 in
set_option maxHeartbeats 1000000 in
theorem closedR_err (s : ByteArray) (bash : Bool) (p d fr r n : Nat) (hs : s.size ≤ 9007199254740992) (hfr : fr ≤ s.size) (h : Cl s n fr 0 r 8) (B : Nat) (w : World) (hr : LRd w B s bash p d) :
    Calls Tryz.prog 63 #[.pointer (some ⟨B, 0, none⟩), .int .i64 fr] w fun e w' => e = .panicked [faultL 8 r] ∧ Below w.heap.size w w' := by
  have c0 := hr.c0
  have cC := fun W => closed_at s hs n fr r hfr 8 h W
  clear h
  go_enter Tryz.func63, Tryz.ntmps63
  go_wp2_with (go_at_call 15; (with_reducible refine (cC _).mono ?_); rintro e w1 ⟨rfl, m, rfl⟩)
  exact ⟨rfl, rfl, below_drewN (Below.refl _ _) m⟩
theorem tenSet_kf {F : Nat → Prop} {a W : World} {b : Nat} (h : KF F a W) (hb : F b ∨ a.heap.size ≤ b) (kind : Int) (text name op : List UInt8) (q : Bool) (wd mo su li : Sl) (pl : Int) : KF F a (tenSet W b kind text name op q wd mo su li pl) :=
  (((((((((h.set hb 0 _).set hb 1 _).set hb 2 _).set hb 3 _).set hb 4 _).set hb 5 _).set hb 6 _).set hb 7 _).set hb 8 _).set hb 9 _
def listPt (kind : Int) (t : List UInt8) (q : Bool) (pl : Int) : Pt := ⟨kind, t, [], [], q, .no, .no, .no, .no, pl⟩
set_option maxRecDepth 100000 in
set_option maxHeartbeats 4000000 in
theorem list_err (s : ByteArray) (bash : Bool) (p d r n : Nat) (kind : Int) (q : Bool) (hs : s.size ≤ 281474976710656) (hp : p + 2 ≤ s.size) (h : Cl s n (p + 2) 0 r 8) (B : Nat) (w : World) (hr : LRd w B s bash p d) :
    Calls Tryz.prog 51 #[.pointer (some ⟨B, 0, none⟩), .int .i64 kind, .bool q] w fun e w' => e = .panicked [faultL 8 r] ∧ Below w.heap.size w w' := by
  have hb0 : Below w.heap.size w (w.alloc zeroO) := (Below.refl _ _).alloc (Nat.le_refl _) _
  have hr0 := hr.below hb0
  have cC := closedR_err s bash p d (p + 2) r n (by omega) hp h B (w.alloc zeroO) hr0
  have c1 := hr0.c1
  have hp2 : ((p + 2 : Nat) : Int) = (p : Int) + 2 := by omega
  have hp0 : (0 : Int) ≤ (p : Int) := by omega
  have hpi : (p : Int) + 2 ≤ 281474976710656 := by omega
  simp only [hp2] at cC
  have HB0 := hid hb0
  clear h hb0
  go_enter Tryz.func51, Tryz.ntmps51
  go_wp2_with (go_at_call 63; (with_reducible refine cC.mono ?_); rintro e w1 ⟨rfl, hb1⟩)
  exact ⟨rfl, rfl, HB0.out.trans (hb1.mono HB0.out.size)⟩
theorem sub_done {N G B : Nat} {F : Nat → Prop} {s : ByteArray} {bash : Bool} {p' d : Nat} {b : Bg} {w W : World} (hB : B < N) (hbag : BagAt N G F b w) (hk : KF (fun k => k = B) w W) (hr1 : LRd W B s bash p' d) :
    BagAt N G F b W ∧ ∀ w' b', BagTo N G F b' W w' → PTo N G B F s bash p' d b' w w' := by
  have hge : ∀ k, F k → N ≤ k := fun k hk => (hbag.ge k hk).1
  refine ⟨hbag.kept hk (fun k hk => by have := hge k hk; omega), fun w' b' hto => ?_⟩
  obtain ⟨h1, F1, h2, h3⟩ := hto
  refine ⟨(hk.mono (G := fun k => F k ∨ k = B) (fun g _ hg => .inr hg)).trans h1 (fun g hg => .inl (.inl hg)), hr1.kept h1 (fun hf => by have := hge B hf; omega), F1, fun g hg => ?_, h3⟩
  rcases h2 g hg with h | h
  · exact .inl h
  · exact .inr (Nat.le_trans hk.size h)
set_option maxRecDepth 100000 in
set_option maxHeartbeats 4000000 in
theorem list_ok (s : ByteArray) (bash : Bool) (p d r n : Nat) (kind : Int) (q : Bool) (hs : s.size ≤ 281474976710656) (hp : p + 2 ≤ s.size) (h : Cl s n (p + 2) 0 r 0) (hle : p + 2 ≤ r) (hrs : r < s.size) (B : Nat) (w : World) (hB : B < w.heap.size) (hr : LRd w B s bash p d) :
    Calls Tryz.prog 51 #[.pointer (some ⟨B, 0, none⟩), .int .i64 kind, .bool q] w fun e w' => e = .returned (aggPt kind ((s.data.toList.drop (p + 2)).take (r - (p + 2))) [] [] q .no .no .no .no (p + 2)) ∧ KF (fun k => k = B) w w' ∧ LRd w' B s bash (r + 1) d := by
  have hb0 : Below w.heap.size w (w.alloc zeroO) := (Below.refl _ _).alloc (Nat.le_refl _) _
  have hz0 : (w.alloc zeroO).heap[w.heap.size]? = some zeroO := heap_alloc_new w zeroO
  have hr0 := hr.below hb0
  have cC := closedR_ok s bash p d (p + 2) r n (by omega) hp h B (w.alloc zeroO) hr0
  have c0 := hr0.c0; have c1 := hr0.c1
  have f1 := hr0.free 1
  have hpi : (p : Int) + 2 ≤ (r : Int) := by omega
  have hri : (r : Int) < (s.size : Int) := by omega
  have hri1 : (r : Int) ≤ (s.size : Int) := by omega
  have hp0 : (0 : Int) ≤ (p : Int) + 2 := by omega
  have hsi : (s.size : Int) ≤ 281474976710656 := by omega
  have hp2 : ((p + 2 : Nat) : Int) = (p : Int) + 2 := by omega
  simp only [hp2] at cC
  have hx : s.extract (p + 2) r = ⟨((s.data.toList.drop (p + 2)).take (r - (p + 2))).toArray⟩ := by rw [← ext_mid s (p + 2) r]
  obtain ⟨t, ht⟩ : ∃ t, (s.data.toList.drop (p + 2)).take (r - (p + 2)) = t := ⟨_, rfl⟩
  have htl : t.length ≤ 281474976710656 := by rw [← ht, List.length_take, List.length_drop, len_toList]; omega
  rw [ht] at hx ⊢
  have cN := fun W => clone_any t htl W
  have HW : Hid (∀ m w4, Below ((((w.alloc zeroO).drewN m).setCell ⟨B, 1, none⟩ (.int .i64 ((r : Int) + 1))).heap.size) (((w.alloc zeroO).drewN m).setCell ⟨B, 1, none⟩ (.int .i64 ((r : Int) + 1))) w4 → w4.heap[w.heap.size]? = some zeroO ∧ KF (fun k => k = B) w w4 ∧ LRd w4 B s bash (r + 1) d) := hid fun m w4 hb => by
    have h3 : LRd (((w.alloc zeroO).drewN m).setCell ⟨B, 1, none⟩ (.int .i64 ((r : Int) + 1))) B s bash (r + 1) d := LRd.at_ (w := (w.alloc zeroO).drewN m) (p := p) hr0 (r + 1)
    have hz3 : (((w.alloc zeroO).drewN m).setCell ⟨B, 1, none⟩ (.int .i64 ((r : Int) + 1))).heap[w.heap.size]? = some zeroO := by
      rw [heap_setCell_other _ _ _ _ (by show w.heap.size ≠ B; omega)]
      exact hz0
    have k3 : KF (fun k => k = B) w (((w.alloc zeroO).drewN m).setCell ⟨B, 1, none⟩ (.int .i64 ((r : Int) + 1))) := (((KF.refl (fun k => k = B) w).alloc zeroO).drewN m).set (.inl rfl) 1 _
    exact ⟨heap_below' hz3 hb, k3.trans (KF.of_below (F := fun _ => False) hb) (fun _ h => h.elim), h3.below hb⟩
  clear h ht htl hz0 hr0 hb0
  go_enter Tryz.func51, Tryz.ntmps51
  go_wp2_with (first
    | (go_at_call 63; (with_reducible refine cC.mono ?_); rintro e w1 ⟨rfl, m, rfl⟩)
    | (go_at_call 32; (with_reducible refine (cN _).mono ?_); rintro e w4 ⟨rfl, hb4⟩; obtain ⟨hz4, hk4, hr4⟩ := HW.out m w4 hb4; have f0 := Lib.frozen_of_heap hz4 0; have f1 := Lib.frozen_of_heap hz4 1; have f2 := Lib.frozen_of_heap hz4 2; have f3 := Lib.frozen_of_heap hz4 3; have f4 := Lib.frozen_of_heap hz4 4; have f5 := Lib.frozen_of_heap hz4 5; have f6 := Lib.frozen_of_heap hz4 6; have f7 := Lib.frozen_of_heap hz4 7; have f8 := Lib.frozen_of_heap hz4 8; have f9 := Lib.frozen_of_heap hz4 9; obtain ⟨z0, z1, z2, z3, z4, z5, z6, z7, z8, z9⟩ := pt_cells (kind := 0) (text := []) (name := []) (op := []) (q := false) (wd := .no) (mo := .no) (su := .no) (li := .no) (pl := 0) hz4; have HZ4 := hid (And.intro hz4 (And.intro hk4 hr4)); clear hz4 hk4 hr4 hb4))
  show bodyPost _ _ _ _ _ (tenSet w4 w.heap.size kind t [] [] q .no .no .no .no ((p : Int) + 2))
  have hx := tenSet_heap HZ4.out.1 kind t [] [] q .no .no .no .no ((p : Int) + 2)
  have hkx := tenSet_kf HZ4.out.2.1 (b := w.heap.size) (.inr (Nat.le_refl _)) kind t [] [] q .no .no .no .no ((p : Int) + 2)
  have hrx := HZ4.out.2.2.kept (tenSet_kf (KF.refl (fun k => k = w.heap.size) w4) (b := w.heap.size) (.inl rfl) kind t [] [] q .no .no .no .no ((p : Int) + 2)) (by show ¬ B = w.heap.size; omega)
  generalize tenSet w4 w.heap.size kind t [] [] q .no .no .no .no ((p : Int) + 2) = WF at *
  obtain ⟨d0, d1, d2, d3, d4, d5, d6, d7, d8, d9⟩ := pt_cells hx
  exact bodyPost_ret (v := aggPt kind t [] [] q .no .no .no .no ((p : Int) + 2)) (by simp [results, Tryz.results51, go_sem, d0, d1, d2, d3, d4, d5, d6, d7, d8, d9, Sl.no]) rfl ⟨rfl, hkx, hrx⟩
set_option maxRecDepth 100000 in
set_option maxHeartbeats 4000000 in
theorem dollar_list_ok (way n r : Nat) (s : ByteArray) (bash : Bool) (p d : Nat) (b : Bg) (hs : s.size ≤ 281474976710656) (hp : p + 2 ≤ s.size)
    (h1 : Lib.hasPrefix (s.data.toList.drop (p + 1)) [40, 40] = false) (h2 : Lib.hasPrefix (s.data.toList.drop (p + 1)) [40] = true) (hcl : Cl s n (p + 2) 0 r 0) (hle : p + 2 ≤ r) (hrs : r < s.size)
    (hb1 : b.ps.length + 2 ≤ 549755813888) (ht2 : b.tx.length + (r - (p + 2)) ≤ 140737488355328) :
    SubOk 47 way s bash d p (r + 1) b (addB b [listPt 3 ((s.data.toList.drop (p + 2)).take (r - (p + 2))) (decide (3 ≤ way)) (p + 2)]) := by
  intro N G B F w hB hr hbag
  have c0 := hr.c0; have c1 := hr.c1
  have hpi : (p : Int) + 1 ≤ (s.size : Int) := by omega
  have hp0 : (0 : Int) ≤ (p : Int) := by omega
  have hp01 : (0 : Int) ≤ (p : Int) + 1 := by omega
  have hsi : (s.size : Int) ≤ 281474976710656 := by omega
  have hwr : IntKind.i64.wrap ((p : Int) + 1) = (p : Int) + 1 := wrap_small (by omega) (by omega)
  have cP := fun q W => Tryz.strings_HasPrefix (s.extract (p + 1) s.size) q W
  rw [ext_from] at cP
  obtain ⟨R, hR⟩ : ∃ R, s.extract (p + 1) s.size = R := ⟨_, rfl⟩
  rw [hR] at cP
  have cP1 : ∀ W, Calls Tryz.prog 56 #[.string R, .string ⟨#[40, 40]⟩] W fun e w' => e = .returned (.bool false) ∧ w' = W := fun W => by have := cP ⟨#[40, 40]⟩ W; rw [show (⟨#[40, 40]⟩ : ByteArray).data.toList = [40, 40] from rfl, h1] at this; exact this
  have cP2 : ∀ W, Calls Tryz.prog 56 #[.string R, .string ⟨#[40]⟩] W fun e w' => e = .returned (.bool true) ∧ w' = W := fun W => by have := cP ⟨#[40]⟩ W; rw [show (⟨#[40]⟩ : ByteArray).data.toList = [40] from rfl, h2] at this; exact this
  obtain ⟨q, hq⟩ : ∃ q, decide (3 ≤ way) = q := ⟨_, rfl⟩
  have hqi : decide ((3 : Int) ≤ (way : Int)) = q := by rw [← hq]; simp; omega
  rw [hq]
  have htl : ((s.data.toList.drop (p + 2)).take (r - (p + 2))).length ≤ r - (p + 2) := by rw [List.length_take]; exact Nat.min_le_left _ _
  have cL := fun n' => list_ok s bash p d r n 3 q hs hp hcl hle hrs B (w.drewN n') hr.lt hr
  obtain ⟨t, ht⟩ : ∃ t, (s.data.toList.drop (p + 2)).take (r - (p + 2)) = t := ⟨_, rfl⟩
  rw [ht] at cL htl ⊢
  have HT := hid (fun (n' : Nat) (W : World) (hk : KF (fun k => k = B) (w.drewN n') W) (hr1 : LRd W B s bash (r + 1) d) => sub_done (W := W) hB hbag hk.undrewN hr1)
  have hbt : b.tx.length + t.length ≤ 140737488355328 := by omega
  clear h1 h2 hcl ht hq hbag hr cP htl
  go_enter Tryz.func47, Tryz.ntmps47
  go_wp2_with fail
  go_quiet (fail)
  all_goals
    go_wp2_with (first
      | (go_at_call 56; (with_reducible refine (cP1 _).mono ?_); rintro e w1 ⟨rfl, hw⟩; have hw := hw.symm; subst hw)
      | (go_at_call 56; (with_reducible refine (cP2 _).mono ?_); rintro e w1 ⟨rfl, hw⟩; have hw := hw.symm; subst hw)
      | (go_at_call 51; (with_reducible refine (cL _).mono ?_); rintro e w2 ⟨rfl, hk2, hr2⟩; obtain ⟨hbg2, HT2⟩ := HT.out _ w2 hk2 hr2)
      | (go_at_call 50; refine (add_one N G F b (listPt 3 t _ _) w2 hbg2 hb1 hbt).mono ?_; rintro e w3 ⟨rfl, hto⟩))
    all_goals
      go_end0
      exact ⟨rfl, HT2 _ _ hto⟩
set_option maxRecDepth 100000 in
set_option maxHeartbeats 4000000 in
theorem dollar_list_err (way n r : Nat) (s : ByteArray) (bash : Bool) (p d : Nat) (b : Bg) (hs : s.size ≤ 281474976710656) (hp : p + 2 ≤ s.size)
    (h1 : Lib.hasPrefix (s.data.toList.drop (p + 1)) [40, 40] = false) (h2 : Lib.hasPrefix (s.data.toList.drop (p + 1)) [40] = true) (hcl : Cl s n (p + 2) 0 r 8) :
    SubErr 47 way s bash d p b 8 r := by
  intro N G B F w hB hr hbag
  have c0 := hr.c0; have c1 := hr.c1
  have hpi : (p : Int) + 1 ≤ (s.size : Int) := by omega
  have hp0 : (0 : Int) ≤ (p : Int) := by omega
  have hp01 : (0 : Int) ≤ (p : Int) + 1 := by omega
  have hsi : (s.size : Int) ≤ 281474976710656 := by omega
  have hwr : IntKind.i64.wrap ((p : Int) + 1) = (p : Int) + 1 := wrap_small (by omega) (by omega)
  have cP := fun q W => Tryz.strings_HasPrefix (s.extract (p + 1) s.size) q W
  rw [ext_from] at cP
  obtain ⟨R, hR⟩ : ∃ R, s.extract (p + 1) s.size = R := ⟨_, rfl⟩
  rw [hR] at cP
  have cP1 : ∀ W, Calls Tryz.prog 56 #[.string R, .string ⟨#[40, 40]⟩] W fun e w' => e = .returned (.bool false) ∧ w' = W := fun W => by have := cP ⟨#[40, 40]⟩ W; rw [show (⟨#[40, 40]⟩ : ByteArray).data.toList = [40, 40] from rfl, h1] at this; exact this
  have cP2 : ∀ W, Calls Tryz.prog 56 #[.string R, .string ⟨#[40]⟩] W fun e w' => e = .returned (.bool true) ∧ w' = W := fun W => by have := cP ⟨#[40]⟩ W; rw [show (⟨#[40]⟩ : ByteArray).data.toList = [40] from rfl, h2] at this; exact this
  obtain ⟨q, hq⟩ : ∃ q, decide (3 ≤ way) = q := ⟨_, rfl⟩
  have hqi : decide ((3 : Int) ≤ (way : Int)) = q := by rw [← hq]; simp; omega
  have cL := fun n' => list_err s bash p d r n 3 q hs hp hcl B (w.drewN n') hr
  clear h1 h2 hcl hq hbag hr cP
  go_enter Tryz.func47, Tryz.ntmps47
  go_wp2_with fail
  go_quiet (fail)
  all_goals
    go_wp2_with (first
      | (go_at_call 56; (with_reducible refine (cP1 _).mono ?_); rintro e w1 ⟨rfl, hw⟩; have hw := hw.symm; subst hw)
      | (go_at_call 56; (with_reducible refine (cP2 _).mono ?_); rintro e w1 ⟨rfl, hw⟩; have hw := hw.symm; subst hw)
      | (go_at_call 51; (with_reducible refine (cL _).mono ?_); rintro e w2 ⟨rfl, hb2⟩))
    all_goals
      exact ⟨rfl, rfl, KF.undrewN (KF.of_below hb2)⟩
set_option maxRecDepth 100000 in
set_option maxHeartbeats 4000000 in
theorem part_file_ok (way : Nat) (hway : way ≤ 2) (n r : Nat) (s : ByteArray) (bash : Bool) (p d : Nat) (b : Bg) (hs : s.size ≤ 281474976710656) (hp : p + 2 ≤ s.size) (hp0 : p < s.size) (hc : s[p] = 60)
    (ho : opensB bash (s.data.toList.drop p) = true) (hcl : Cl s n (p + 2) 0 r 0) (hle : p + 2 ≤ r) (hrs : r < s.size)
    (hb1 : b.ps.length + 2 ≤ 549755813888) (ht2 : b.tx.length + (r - (p + 2)) ≤ 140737488355328) :
    StepOk way s bash d p (r + 1) b (addB b [listPt 5 ((s.data.toList.drop (p + 2)).take (r - (p + 2))) false (p + 2)]) := by
  intro N G B F w hB hr hbag
  have c0 := hr.c0; have c1 := hr.c1
  have hw3 : (way : Int) < 3 := by omega
  have hpi : (p : Int) < (s.size : Int) := by omega
  have hp0 : (0 : Int) ≤ (p : Int) := by omega
  have hsi : (s.size : Int) ≤ 281474976710656 := by omega
  have cO := fun n => opens_any B s bash p d (w.drewN n) hr (by omega) (by omega)
  rw [ho] at cO
  have htl : ((s.data.toList.drop (p + 2)).take (r - (p + 2))).length ≤ r - (p + 2) := by rw [List.length_take]; exact Nat.min_le_left _ _
  have cL := fun n' => list_ok s bash p d r n 5 false hs hp hcl hle hrs B (w.drewN n') hr.lt hr
  obtain ⟨t, ht⟩ : ∃ t, (s.data.toList.drop (p + 2)).take (r - (p + 2)) = t := ⟨_, rfl⟩
  rw [ht] at cL htl ⊢
  have HT := hid (fun (n' : Nat) (W : World) (hk : KF (fun k => k = B) (w.drewN n') W) (hr1 : LRd W B s bash (r + 1) d) => sub_done (W := W) hB hbag hk.undrewN hr1)
  have hbt : b.tx.length + t.length ≤ 140737488355328 := by omega
  clear ho hcl ht hbag hr htl
  go_enter Tryz.func37, Tryz.ntmps37
  go_wp2_with fail
  go_quiet (fail)
  all_goals
    go_wp2_with (first
      | (go_at_call 44; (with_reducible refine (cO _).mono ?_); rintro e w1 ⟨rfl, n, rfl⟩)
      | (go_at_call 51; (with_reducible refine (cL _).mono ?_); rintro e w2 ⟨rfl, hk2, hr2⟩; obtain ⟨hbg2, HT2⟩ := HT.out _ w2 hk2 hr2)
      | (go_at_call 50; refine (add_one N G F b (listPt 5 t _ _) w2 hbg2 hb1 hbt).mono ?_; rintro e w3 ⟨rfl, hto⟩))
    all_goals
      go_end0
      exact ⟨rfl, HT2 _ _ hto⟩
set_option maxRecDepth 100000 in
set_option maxHeartbeats 4000000 in
theorem part_file_err (way : Nat) (hway : way ≤ 2) (n r : Nat) (s : ByteArray) (bash : Bool) (p d : Nat) (b : Bg) (hs : s.size ≤ 281474976710656) (hp : p + 2 ≤ s.size) (hp0 : p < s.size) (hc : s[p] = 60)
    (ho : opensB bash (s.data.toList.drop p) = true) (hcl : Cl s n (p + 2) 0 r 8) : StepErr way s bash d p b 8 r := by
  intro N G B F w hB hr hbag
  have c0 := hr.c0; have c1 := hr.c1
  have hw3 : (way : Int) < 3 := by omega
  have hpi : (p : Int) < (s.size : Int) := by omega
  have hp0 : (0 : Int) ≤ (p : Int) := by omega
  have hsi : (s.size : Int) ≤ 281474976710656 := by omega
  have cO := fun n => opens_any B s bash p d (w.drewN n) hr (by omega) (by omega)
  rw [ho] at cO
  have cL := fun n' => list_err s bash p d r n 5 false hs hp hcl B (w.drewN n') hr
  clear ho hcl hbag hr
  go_enter Tryz.func37, Tryz.ntmps37
  go_wp2_with fail
  go_quiet (fail)
  all_goals
    go_wp2_with (first
      | (go_at_call 44; (with_reducible refine (cO _).mono ?_); rintro e w1 ⟨rfl, n, rfl⟩)
      | (go_at_call 51; (with_reducible refine (cL _).mono ?_); rintro e w2 ⟨rfl, hb2⟩))
    all_goals
      exact ⟨rfl, rfl, KF.undrewN (KF.of_below hb2)⟩
set_option maxRecDepth 100000 in
set_option maxHeartbeats 4000000 in
theorem part_back_err (way : Nat) (s : ByteArray) (bash : Bool) (p d : Nat) (b : Bg) (hp : p < s.size) (hc : s[p] = 96) : StepErr way s bash d p b 33 p := by
  intro N G B F w hB hr hbag
  have c0 := hr.c0; have c1 := hr.c1
  have hpi : (p : Int) < (s.size : Int) := by omega
  have hp0 : (0 : Int) ≤ (p : Int) := by omega
  have hk0 := KF.refl (fun k => F k ∨ k = B) w
  have cH := fun n => here_any B s bash p d (w.drewN n) 33 hr
  clear hbag hr
  go_enter Tryz.func37, Tryz.ntmps37
  go_wp2_with fail
  go_quiet (fail)
  all_goals
    go_wp2_with (go_at_call 45; (with_reducible refine (cH _).mono ?_); rintro e w1 ⟨rfl, hb1⟩)
    all_goals
      exact ⟨rfl, rfl, (hk0.drewN _).trans (KF.of_below (F := fun _ => False) hb1) (fun _ h => h.elim)⟩
set_option maxRecDepth 100000 in
set_option maxHeartbeats 4000000 in
theorem part_both_err (s : ByteArray) (bash : Bool) (p d : Nat) (b : Bg) (hp : p < s.size) (hc : s[p] = 34) : StepErr 4 s bash d p b 33 p := by
  intro N G B F w hB hr hbag
  have c0 := hr.c0; have c1 := hr.c1
  have hpi : (p : Int) < (s.size : Int) := by omega
  have hp0 : (0 : Int) ≤ (p : Int) := by omega
  have hk0 := KF.refl (fun k => F k ∨ k = B) w
  have cH := fun n => here_any B s bash p d (w.drewN n) 33 hr
  clear hbag hr
  go_enter Tryz.func37, Tryz.ntmps37
  go_wp2_with fail
  go_quiet (fail)
  all_goals
    go_wp2_with (go_at_call 45; (with_reducible refine (cH _).mono ?_); rintro e w1 ⟨rfl, hb1⟩)
    all_goals
      exact ⟨rfl, rfl, (hk0.drewN _).trans (KF.of_below (F := fun _ => False) hb1) (fun _ h => h.elim)⟩
end Go.Proofs.YtialepcdbpofkaaGreat
namespace Go.Proofs.YtialepcdbpofkaaGreat
open Go.RowKit
open Go.Lib (hid)
set_option maxRecDepth 100000 in
set_option maxHeartbeats 4000000 in
theorem dollar_plain (way : Nat) (s : ByteArray) (bash : Bool) (p d : Nat) (b : Bg) (hs : s.size ≤ 281474976710656) (hp : p < s.size)
    (h1 : Lib.hasPrefix (s.data.toList.drop (p + 1)) [40, 40] = false) (h2 : Lib.hasPrefix (s.data.toList.drop (p + 1)) [40] = false) (h3 : Lib.hasPrefix (s.data.toList.drop (p + 1)) [123] = false)
    (h4 : bash = false ∨ 3 ≤ way ∨ Lib.hasPrefix (s.data.toList.drop (p + 1)) [39] = false) (hn : namedN (s.data.toList.drop (p + 1)) 1 = 0)
    (hb1 : b.ps.length ≤ 549755813888) (hb2 : b.tx.length + 1 ≤ 140737488355328) : SubOk 47 way s bash d p (p + 1) b (putB b [36] true) := by
  intro N G B F w hB hr hbag
  have c0 := hr.c0; have c1 := hr.c1; have c2 := hr.c2
  have hpi : (p : Int) + 1 ≤ (s.size : Int) := by omega
  have hp0 : (0 : Int) ≤ (p : Int) := by omega
  have hp01 : (0 : Int) ≤ (p : Int) + 1 := by omega
  have hsi : (s.size : Int) ≤ 281474976710656 := by omega
  have hwr : IntKind.i64.wrap ((p : Int) + 1) = (p : Int) + 1 := wrap_small (by omega) (by omega)
  have cP := fun q W => Tryz.strings_HasPrefix (s.extract (p + 1) s.size) q W
  have cN := fun W => named_any (s.extract (p + 1) s.size) 1 (by rw [ByteArray.size_extract]; omega) (by omega) W
  rw [ext_from] at cP cN
  rw [hn] at cN
  obtain ⟨R, hR⟩ : ∃ R, s.extract (p + 1) s.size = R := ⟨_, rfl⟩
  rw [hR] at cP cN
  have cP1 : ∀ W, Calls Tryz.prog 56 #[.string R, .string ⟨#[40, 40]⟩] W fun e w' => e = .returned (.bool false) ∧ w' = W := fun W => by have := cP ⟨#[40, 40]⟩ W; rw [show (⟨#[40, 40]⟩ : ByteArray).data.toList = [40, 40] from rfl, h1] at this; exact this
  have cP2 : ∀ W, Calls Tryz.prog 56 #[.string R, .string ⟨#[40]⟩] W fun e w' => e = .returned (.bool false) ∧ w' = W := fun W => by have := cP ⟨#[40]⟩ W; rw [show (⟨#[40]⟩ : ByteArray).data.toList = [40] from rfl, h2] at this; exact this
  have cP3 : ∀ W, Calls Tryz.prog 56 #[.string R, .string ⟨#[123]⟩] W fun e w' => e = .returned (.bool false) ∧ w' = W := fun W => by have := cP ⟨#[123]⟩ W; rw [show (⟨#[123]⟩ : ByteArray).data.toList = [123] from rfl, h3] at this; exact this
  have cP4 : ∀ W, Calls Tryz.prog 56 #[.string R, .string ⟨#[39]⟩] W fun e w' => e = .returned (.bool (Lib.hasPrefix (s.data.toList.drop (p + 1)) [39])) ∧ w' = W := fun W => cP ⟨#[39]⟩ W
  obtain ⟨z, hz⟩ : ∃ z, Lib.hasPrefix (s.data.toList.drop (p + 1)) [39] = z := ⟨_, rfl⟩
  rw [hz] at cP4 h4
  obtain ⟨q, hq⟩ : ∃ q, decide (3 ≤ way) = q := ⟨_, rfl⟩
  have hqi : decide ((3 : Int) ≤ (way : Int)) = q := by rw [← hq]; simp; omega
  have hge : ∀ k, F k → N ≤ k := fun k hk => (hbag.ge k hk).1
  have cU := fun n => put_any N G F b [36] true (w.drewN n) (hbag.kept ((KF.refl (fun _ => False) w).drewN n) (fun _ _ h => h)) hb1 (by simpa using hb2)
  have cN1 : ∀ W, Calls Tryz.prog 61 #[.string R, .int .i64 1] W fun e w' => e = .returned (.int .i64 0) ∧ w' = W := cN
  have hcase : bash = false ∨ q = true ∨ z = false := by
    rcases h4 with h | h | h
    · exact .inl h
    · exact .inr (.inl (by rw [← hq]; simpa using h))
    · exact .inr (.inr h)
  clear h1 h2 h3 h4 hn hz hq hbag cP cN hb1 hb2
  have hcase2 : q = true ∨ (q = false ∧ bash = false) ∨ (q = false ∧ z = false) := by cases q <;> simp_all
  clear hcase
  rcases hcase2 with rfl | ⟨rfl, rfl⟩ | ⟨rfl, rfl⟩
  all_goals
    go_enter Tryz.func47, Tryz.ntmps47
    go_wp2_with fail
    go_quiet (fail)
    all_goals
      go_wp2_with (first
        | (go_at_call 56; (with_reducible refine (cP1 _).mono ?_); rintro e w1 ⟨rfl, hw⟩; have hw := hw.symm; subst hw)
        | (go_at_call 56; (with_reducible refine (cP2 _).mono ?_); rintro e w1 ⟨rfl, hw⟩; have hw := hw.symm; subst hw)
        | (go_at_call 56; (with_reducible refine (cP3 _).mono ?_); rintro e w1 ⟨rfl, hw⟩; have hw := hw.symm; subst hw)
        | (go_at_call 56; (with_reducible refine (cP4 _).mono ?_); rintro e w1 ⟨rfl, hw⟩; have hw := hw.symm; subst hw)
        | (go_at_call 61; (with_reducible refine (cN1 _).mono ?_); rintro e w1 ⟨rfl, hw⟩; have hw := hw.symm; subst hw)
        | (go_at_call 49; refine (cU _).mono ?_; rintro e w2 ⟨rfl, ht⟩; obtain ⟨hr2, hto⟩ := ht.undrew.step (p := p) (p' := p + 1) (w := w) hr hB hge; have k1 := hr2.c1; have kf := hr2.free 1))
      all_goals
        go_end0
        exact ⟨rfl, hto⟩
end Go.Proofs.YtialepcdbpofkaaGreat

namespace Go.Proofs.YtialepcdbpofkaaGreat
open Go.RowKit
open Go.Lib (hid)
theorem digitsFn (i : Nat) (c : UInt8) (w : World) : Calls Tryz.prog 95 #[.int .i64 i, .int .u8 c.toNat] w fun e w' => e = .returned (.bool (digitB c.toNat)) ∧ w = w' := by
  have c1 := fun W => digit_any c.toNat W
  go_enter Tryz.func95, Tryz.ntmps95
  go_wp2_with fail
  refine (c1 _).mono ?_
  rintro e w1 ⟨rfl, rfl⟩
  go_wp2_with fail
  go_ret
  exact ⟨rfl, rfl⟩
theorem digits_any (s : List UInt8) (w : World) (hs : s.length ≤ 1099511627776) (hne : s ≠ []) :
    Calls Tryz.prog 77 #[encS s] w fun e w' => e = .returned (.bool (s.all fun c => digitB c.toNat)) ∧ w = w' := by
  have cE := fun W => every_any 95 #[] (enters_of Tryz.func95 (by kernel_rfl) rfl) (fun _ c => digitB c.toNat) ⟨s.toArray⟩ W (by unfold maxLen; simp [ByteArray.size]; omega) (fun i _ => digitsFn i _ W)
  rw [everyL_const] at cE
  have h1 : (⟨s.toArray⟩ : ByteArray).data.toList = s := by simp
  rw [h1] at cE
  have g1 : (s == []) = false := by simpa using hne
  obtain ⟨q, hq⟩ : ∃ q, (s.all fun c => digitB c.toNat) = q := ⟨_, rfl⟩
  rw [hq] at cE ⊢
  clear hq h1 hne
  go_enter Tryz.func77, Tryz.ntmps77
  go_wp2_with fail
  refine (cE _).mono ?_
  rintro e w1 ⟨rfl, rfl⟩
  go_wp2_with fail
  go_ret
  exact ⟨rfl, rfl⟩
end Go.Proofs.YtialepcdbpofkaaGreat
namespace Go.Proofs.YtialepcdbpofkaaGreat
open Go.RowKit
open Go.Lib (hid)
set_option maxRecDepth 100000 in
set_option maxHeartbeats 4000000 in
theorem name_digits (most n : Nat) (s : ByteArray) (bash : Bool) (p d : Nat) (hs : s.size ≤ 281474976710656) (hp : p ≤ s.size) (hm : most ≤ 281474976710656) (hn : namedN (s.data.toList.drop p) most = n) (h64 : 64 < n) (hall : ((s.data.toList.drop p).take n).all (fun c => digitB c.toNat) = true) (hn40 : n ≤ 1099511627776) (B : Nat) (w : World) (hr : LRd w B s bash p d) :
    Calls Tryz.prog 62 #[.pointer (some ⟨B, 0, none⟩), .int .i64 most] w fun e w' => e = .returned (encS ((s.data.toList.drop p).take n)) ∧ KF (fun k => k = B) w w' ∧ LRd w' B s bash (p + n) d := by
  have hle := namedN_le (s.data.toList.drop p) most
  rw [hn, List.length_drop, len_toList] at hle
  have c0 := hr.c0; have c1 := hr.c1
  have f1 := hr.free 1
  have hpi : (p : Int) ≤ (s.size : Int) := by omega
  have hp0 : (0 : Int) ≤ (p : Int) := by omega
  have hrs : (s.extract p s.size).size = s.size - p := by rw [ByteArray.size_extract]; omega
  have cN := fun W => named_any (s.extract p s.size) most (by omega) hm W
  rw [ext_from, hn] at cN
  obtain ⟨R, hR⟩ : ∃ R, s.extract p s.size = R := ⟨_, rfl⟩
  have hRl : R.data.toList = s.data.toList.drop p := by rw [← hR, ext_from]
  rw [hR] at cN hrs
  have hRs : (n : Int) ≤ (R.size : Int) := by omega
  have hx : R.extract 0 n = ⟨((s.data.toList.drop p).take n).toArray⟩ := by
    have h := ext_mid R 0 n
    rw [hRl, List.drop_zero, Nat.sub_zero] at h
    rw [← h]
  have hlen : ((s.data.toList.drop p).take n).length = n := by rw [List.length_take, List.length_drop, len_toList]; omega
  have hne1 : (R.toList == []) = false := by rw [toList_data]; exact beq_nil _ (by rw [len_toList]; omega)
  obtain ⟨t, ht⟩ : ∃ t, (s.data.toList.drop p).take n = t := ⟨_, rfl⟩
  rw [ht] at hx hlen hall
  have cD := fun W => digits_any t W (by omega) (by intro e; rw [e] at hlen; simp at hlen; omega)
  rw [hall] at cD
  have hne2 : (t == []) = false := beq_nil _ (by omega)
  have hts : (⟨t.toArray⟩ : ByteArray).size = n := by simp [ByteArray.size, hlen]
  have hn0 : (0 : Int) ≤ (n : Int) := by omega
  have hn64 : (64 : Int) < (n : Int) := by omega
  have hpn : (p : Int) + (n : Int) ≤ 281474976710656 := by omega
  have cC := fun W => clone_any t (by omega) W
  have HR := hid (And.intro ((KF.refl (fun k => k = B) w).set (.inl rfl) 1 (.int .i64 ((p : Int) + n))) (show LRd (w.setCell ⟨B, 1, none⟩ (.int .i64 ((p : Int) + n))) B s bash (p + n) d from by have := hr.at_ (p + n); rw [show ((p + n : Nat) : Int) = (p : Int) + n by omega] at this; exact this))
  have HT := hid ht
  clear ht hRl hle hn h64 hlen hall
  go_enter Tryz.func62, Tryz.ntmps62
  go_wp2_with fail
  go_quiet (fail)
  all_goals
    go_wp2_with (first
      | (go_at_call 61; (with_reducible refine (cN _).mono ?_); rintro e w1 ⟨rfl, hw⟩; have hw := hw.symm; subst hw)
      | (go_at_call 77; (with_reducible refine (cD _).mono ?_); rintro e w1 ⟨rfl, hw⟩; subst hw)
      | (go_at_call 32; (with_reducible refine (cC _).mono ?_); rintro e w2 ⟨rfl, hb2⟩))
    go_ret
    rw [HT.out]
    exact ⟨rfl, ⟨hb2.os.trans HR.out.1.os, hb2.tape.trans HR.out.1.tape, hb2.output.trans HR.out.1.output, Nat.le_trans HR.out.1.size hb2.size, fun k hk hkB => (hb2.block k (Nat.lt_of_lt_of_le hk HR.out.1.size)).trans (HR.out.1.block k hk hkB)⟩, HR.out.2.below ⟨hb2.os, hb2.tape, hb2.output, hb2.size, hb2.block⟩⟩
set_option maxRecDepth 100000 in
set_option maxHeartbeats 4000000 in
theorem name_long (most n : Nat) (s : ByteArray) (bash : Bool) (p d : Nat) (hs : s.size ≤ 281474976710656) (hp : p ≤ s.size) (hm : most ≤ 281474976710656) (hn : namedN (s.data.toList.drop p) most = n) (h64 : 64 < n) (hall : ((s.data.toList.drop p).take n).all (fun c => digitB c.toNat) = false) (hn40 : n ≤ 1099511627776) (B : Nat) (w : World) (hr : LRd w B s bash p d) :
    Calls Tryz.prog 62 #[.pointer (some ⟨B, 0, none⟩), .int .i64 most] w fun e w' => e = .panicked [faultL 5 p] ∧ Below w.heap.size w w' := by
  have hle := namedN_le (s.data.toList.drop p) most
  rw [hn, List.length_drop, len_toList] at hle
  have c0 := hr.c0; have c1 := hr.c1
  have hpi : (p : Int) ≤ (s.size : Int) := by omega
  have hp0 : (0 : Int) ≤ (p : Int) := by omega
  have hrs : (s.extract p s.size).size = s.size - p := by rw [ByteArray.size_extract]; omega
  have cN := fun W => named_any (s.extract p s.size) most (by omega) hm W
  rw [ext_from, hn] at cN
  obtain ⟨R, hR⟩ : ∃ R, s.extract p s.size = R := ⟨_, rfl⟩
  have hRl : R.data.toList = s.data.toList.drop p := by rw [← hR, ext_from]
  rw [hR] at cN hrs
  have hRs : (n : Int) ≤ (R.size : Int) := by omega
  have hx : R.extract 0 n = ⟨((s.data.toList.drop p).take n).toArray⟩ := by
    have h := ext_mid R 0 n
    rw [hRl, List.drop_zero, Nat.sub_zero] at h
    rw [← h]
  have hlen : ((s.data.toList.drop p).take n).length = n := by rw [List.length_take, List.length_drop, len_toList]; omega
  have hne1 : (R.toList == []) = false := by rw [toList_data]; exact beq_nil _ (by rw [len_toList]; omega)
  obtain ⟨t, ht⟩ : ∃ t, (s.data.toList.drop p).take n = t := ⟨_, rfl⟩
  rw [ht] at hx hlen hall
  have cD := fun W => digits_any t W (by omega) (by intro e; rw [e] at hlen; simp at hlen; omega)
  rw [hall] at cD
  have hne2 : (t == []) = false := beq_nil _ (by omega)
  have hts : (⟨t.toArray⟩ : ByteArray).size = n := by simp [ByteArray.size, hlen]
  have hn0 : (0 : Int) ≤ (n : Int) := by omega
  have hn64 : (64 : Int) < (n : Int) := by omega
  have hb0 := Below.refl w.heap.size w
  clear ht hRl hle hn h64 hlen hall
  have cH := fun n => here_any B s bash p d (w.drewN n) 5 hr
  go_enter Tryz.func62, Tryz.ntmps62
  go_wp2_with fail
  go_quiet (fail)
  all_goals
    go_wp2_with (first
      | (go_at_call 61; (with_reducible refine (cN _).mono ?_); rintro e w1 ⟨rfl, hw⟩; have hw := hw.symm; subst hw)
      | (go_at_call 77; (with_reducible refine (cD _).mono ?_); rintro e w1 ⟨rfl, hw⟩; subst hw)
      | (go_at_call 45; (with_reducible refine (cH _).mono ?_); rintro e w1 ⟨rfl, hb1⟩))
    all_goals
      exact ⟨rfl, rfl, hb1.os, hb1.tape, hb1.output, hb1.size, hb1.block⟩
set_option maxRecDepth 100000 in
set_option maxHeartbeats 4000000 in
theorem name_syn (most : Nat) (s : ByteArray) (bash : Bool) (p d : Nat) (hs : s.size ≤ 281474976710656) (hp : p < s.size) (hm : most ≤ 281474976710656) (hn : namedN (s.data.toList.drop p) most = 0) (B : Nat) (w : World) (hr : LRd w B s bash p d) :
    Calls Tryz.prog 62 #[.pointer (some ⟨B, 0, none⟩), .int .i64 most] w fun e w' => e = .panicked [faultL 33 p] ∧ Below w.heap.size w w' := by
  have c0 := hr.c0; have c1 := hr.c1
  have hpi : (p : Int) ≤ (s.size : Int) := by omega
  have hp0 : (0 : Int) ≤ (p : Int) := by omega
  have hrs : (s.extract p s.size).size = s.size - p := by rw [ByteArray.size_extract]; omega
  have cN := fun W => named_any (s.extract p s.size) most (by omega) hm W
  rw [ext_from, hn] at cN
  obtain ⟨R, hR⟩ : ∃ R, s.extract p s.size = R := ⟨_, rfl⟩
  rw [hR] at cN hrs
  have hne1 : (R.toList == []) = false := by rw [toList_data]; exact beq_nil _ (by rw [len_toList]; omega)
  have hx : R.extract 0 0 = ⟨#[]⟩ := by
    apply ByteArray.ext
    simp
  have hR0 : (0 : Int) ≤ (R.size : Int) := by omega
  have hb0 := Below.refl w.heap.size w
  have cN1 : ∀ W, Calls Tryz.prog 61 #[.string R, .int .i64 most] W fun e w' => e = .returned (.int .i64 0) ∧ w' = W := cN
  clear hn cN
  have cH := fun n => here_any B s bash p d (w.drewN n) 33 hr
  go_enter Tryz.func62, Tryz.ntmps62
  go_wp2_with fail
  go_quiet (fail)
  all_goals
    go_wp2_with (first
      | (go_at_call 61; (with_reducible refine (cN1 _).mono ?_); rintro e w1 ⟨rfl, hw⟩; have hw := hw.symm; subst hw)
      | (go_at_call 45; (with_reducible refine (cH _).mono ?_); rintro e w1 ⟨rfl, hb1⟩))
    all_goals
      exact ⟨rfl, rfl, hb1.os, hb1.tape, hb1.output, hb1.size, hb1.block⟩
set_option maxRecDepth 100000 in
set_option maxHeartbeats 4000000 in
theorem name_short (most : Nat) (s : ByteArray) (bash : Bool) (d : Nat) (hs : s.size ≤ 281474976710656) (hm : most ≤ 281474976710656) (B : Nat) (w : World) (hr : LRd w B s bash s.size d) :
    Calls Tryz.prog 62 #[.pointer (some ⟨B, 0, none⟩), .int .i64 most] w fun e w' => e = .panicked [faultL 8 s.size] ∧ Below w.heap.size w w' := by
  have c0 := hr.c0; have c1 := hr.c1
  have hpi : (s.size : Int) ≤ (s.size : Int) := by omega
  have hp0 : (0 : Int) ≤ (s.size : Int) := by omega
  have hrs : (s.extract s.size s.size).size = 0 := by rw [ByteArray.size_extract]; omega
  have cN := fun W => named_any (s.extract s.size s.size) most (by omega) hm W
  have hnil : s.data.toList.drop s.size = [] := List.drop_eq_nil_of_le (by rw [len_toList]; exact Nat.le_refl _)
  rw [ext_from, hnil] at cN
  have hR0 : s.extract s.size s.size = ByteArray.empty := by
    apply ByteArray.ext
    apply Array.toList_inj.1
    rw [ext_from, hnil]
    rfl
  rw [hR0] at cN
  have cS := fun n => short_any B s bash s.size d (w.drewN n) hr
  have hb0 := Below.refl w.heap.size w
  have cN1 : ∀ W, Calls Tryz.prog 61 #[.string ByteArray.empty, .int .i64 most] W fun e w' => e = .returned (.int .i64 0) ∧ w' = W := cN
  clear hrs hnil cN
  go_enter Tryz.func62, Tryz.ntmps62
  go_wp2_with fail
  go_quiet (fail)
  all_goals
    go_wp2_with (first
      | (go_at_call 61; (with_reducible refine (cN1 _).mono ?_); rintro e w1 ⟨rfl, hw⟩; have hw := hw.symm; subst hw)
      | (go_at_call 42; (with_reducible refine (cS _).mono ?_); rintro e w1 ⟨rfl, hb1⟩))
    all_goals
      exact ⟨rfl, rfl, (below_drewN hb0 _).trans (hb1.mono (Nat.le_refl _))⟩
end Go.Proofs.YtialepcdbpofkaaGreat
namespace Go.Proofs.YtialepcdbpofkaaGreat
open Go.RowKit
open Go.Lib (hid)
set_option maxRecDepth 100000 in
set_option maxHeartbeats 4000000 in
theorem dollar_param_err (way n : Nat) (s : ByteArray) (bash : Bool) (p d : Nat) (b : Bg) (hs : s.size ≤ 281474976710656) (hp : p < s.size)
    (h1 : Lib.hasPrefix (s.data.toList.drop (p + 1)) [40, 40] = false) (h2 : Lib.hasPrefix (s.data.toList.drop (p + 1)) [40] = false) (h3 : Lib.hasPrefix (s.data.toList.drop (p + 1)) [123] = false)
    (h4 : bash = false ∨ 3 ≤ way ∨ Lib.hasPrefix (s.data.toList.drop (p + 1)) [39] = false) (hn : namedN (s.data.toList.drop (p + 1)) 1 = n) (h64 : 64 < n) (hall : ((s.data.toList.drop (p + 1)).take n).all (fun c => digitB c.toNat) = false) (hn40 : n ≤ 1099511627776) :
    SubErr 47 way s bash d p b 5 (p + 1) := by
  intro N G B F w hB hr hbag
  have c0 := hr.c0; have c1 := hr.c1; have c2 := hr.c2
  have f1 := hr.free 1
  have hpi : (p : Int) + 1 ≤ (s.size : Int) := by omega
  have hp0 : (0 : Int) ≤ (p : Int) := by omega
  have hp01 : (0 : Int) ≤ (p : Int) + 1 := by omega
  have hsi : (s.size : Int) ≤ 281474976710656 := by omega
  have hwr : IntKind.i64.wrap ((p : Int) + 1) = (p : Int) + 1 := wrap_small (by omega) (by omega)
  have cP := fun q W => Tryz.strings_HasPrefix (s.extract (p + 1) s.size) q W
  have cN := fun W => named_any (s.extract (p + 1) s.size) 1 (by rw [ByteArray.size_extract]; omega) (by omega) W
  rw [ext_from] at cP cN
  rw [hn] at cN
  have cM := fun n' => name_long 1 n s bash (p + 1) d hs (by omega) (by omega) hn h64 hall hn40 B ((w.drewN n').setCell ⟨B, 1, none⟩ (.int .i64 ((p : Int) + 1))) (by
    have := hr.at_ (p + 1)
    rw [show ((p + 1 : Nat) : Int) = (p : Int) + 1 by omega] at this
    exact this)
  obtain ⟨R, hR⟩ : ∃ R, s.extract (p + 1) s.size = R := ⟨_, rfl⟩
  rw [hR] at cP cN
  have cP1 : ∀ W, Calls Tryz.prog 56 #[.string R, .string ⟨#[40, 40]⟩] W fun e w' => e = .returned (.bool false) ∧ w' = W := fun W => by have := cP ⟨#[40, 40]⟩ W; rw [show (⟨#[40, 40]⟩ : ByteArray).data.toList = [40, 40] from rfl, h1] at this; exact this
  have cP2 : ∀ W, Calls Tryz.prog 56 #[.string R, .string ⟨#[40]⟩] W fun e w' => e = .returned (.bool false) ∧ w' = W := fun W => by have := cP ⟨#[40]⟩ W; rw [show (⟨#[40]⟩ : ByteArray).data.toList = [40] from rfl, h2] at this; exact this
  have cP3 : ∀ W, Calls Tryz.prog 56 #[.string R, .string ⟨#[123]⟩] W fun e w' => e = .returned (.bool false) ∧ w' = W := fun W => by have := cP ⟨#[123]⟩ W; rw [show (⟨#[123]⟩ : ByteArray).data.toList = [123] from rfl, h3] at this; exact this
  have cP4 : ∀ W, Calls Tryz.prog 56 #[.string R, .string ⟨#[39]⟩] W fun e w' => e = .returned (.bool (Lib.hasPrefix (s.data.toList.drop (p + 1)) [39])) ∧ w' = W := fun W => cP ⟨#[39]⟩ W
  obtain ⟨z, hz⟩ : ∃ z, Lib.hasPrefix (s.data.toList.drop (p + 1)) [39] = z := ⟨_, rfl⟩
  rw [hz] at cP4 h4
  obtain ⟨q, hq⟩ : ∃ q, decide (3 ≤ way) = q := ⟨_, rfl⟩
  have hqi : decide ((3 : Int) ≤ (way : Int)) = q := by rw [← hq]; simp; omega
  have hn0 : (0 : Int) < (n : Int) := by omega
  have HR := hid hr
  have HK := hid (fun n' => (((KF.refl (fun k => F k ∨ k = B) w).drewN n').set (b := B) (.inl (.inr rfl)) 1 (.int .i64 ((p : Int) + 1))))
  have cN1 : ∀ W, Calls Tryz.prog 61 #[.string R, .int .i64 1] W fun e w' => e = .returned (.int .i64 n) ∧ w' = W := cN
  have hp1c : ((p + 1 : Nat) : Int) = (p : Int) + 1 := by omega
  simp only [hp1c] at cM ⊢
  have cM1 : ∀ n', Calls Tryz.prog 62 #[.pointer (some ⟨B, 0, none⟩), .int .i64 1] ((w.drewN n').setCell ⟨B, 1, none⟩ (.int .i64 ((p : Int) + 1))) fun e w' => e = .panicked [faultL 5 ((p : Int) + 1)] ∧ Below (((w.drewN n').setCell ⟨B, 1, none⟩ (.int .i64 ((p : Int) + 1))).heap.size) ((w.drewN n').setCell ⟨B, 1, none⟩ (.int .i64 ((p : Int) + 1))) w' := cM
  have hqq : q = true ∨ q = false := by cases q <;> simp
  have hcase : bash = false ∨ q = true ∨ z = false := by
    rcases h4 with h | h | h
    · exact .inl h
    · exact .inr (.inl (by rw [← hq]; simpa using h))
    · exact .inr (.inr h)
  clear h1 h2 h3 h4 hn h64 hall hz hq hbag hr cP cN cM hqq
  have hcase2 : q = true ∨ (q = false ∧ bash = false) ∨ (q = false ∧ z = false) := by cases q <;> simp_all
  clear hcase
  rcases hcase2 with rfl | ⟨rfl, rfl⟩ | ⟨rfl, rfl⟩
  all_goals
    go_enter Tryz.func47, Tryz.ntmps47
    go_wp2_with fail
    go_quiet (fail)
    all_goals
      go_wp2_with (first
        | (go_at_call 56; (with_reducible refine (cP1 _).mono ?_); rintro e w1 ⟨rfl, hw⟩; have hw := hw.symm; subst hw)
        | (go_at_call 56; (with_reducible refine (cP2 _).mono ?_); rintro e w1 ⟨rfl, hw⟩; have hw := hw.symm; subst hw)
        | (go_at_call 56; (with_reducible refine (cP3 _).mono ?_); rintro e w1 ⟨rfl, hw⟩; have hw := hw.symm; subst hw)
        | (go_at_call 56; (with_reducible refine (cP4 _).mono ?_); rintro e w1 ⟨rfl, hw⟩; have hw := hw.symm; subst hw)
        | (go_at_call 61; (with_reducible refine (cN1 _).mono ?_); rintro e w1 ⟨rfl, hw⟩; have hw := hw.symm; subst hw)
        | (go_at_call 62; (with_reducible refine (cM1 _).mono ?_); rintro e w2 ⟨rfl, hb2⟩))
      all_goals
        exact ⟨rfl, rfl, (HK.out _).trans (KF.of_below (F := fun _ => False) hb2) (fun _ h => h.elim)⟩
end Go.Proofs.YtialepcdbpofkaaGreat
namespace Go.Proofs.YtialepcdbpofkaaGreat
open Go.RowKit
open Go.Lib (hid)
theorem find_at {f : List UInt8 → Bool} {l : List (List UInt8)} {k : Nat} (hk : k < l.length) (h : ∀ x ∈ l.take k, f x = false) (hit : f l[k] = true) : l.find? f = some l[k] := by
  have e : l = l.take k ++ l[k] :: l.drop (k + 1) := by rw [← List.drop_eq_getElem_cons hk, List.take_append_drop]
  have h1 : (l.take k).find? f = none := by
    rw [List.find?_eq_none]
    intro x hx
    rw [h x hx]
    exact Bool.false_ne_true
  have h2 : (l.take k ++ l[k] :: l.drop (k + 1)).find? f = some l[k] := by
    rw [List.find?_append, h1, List.find?_cons_of_pos hit]
    rfl
  rw [← e] at h2
  exact h2
set_option maxRecDepth 100000 in
set_option maxHeartbeats 4000000 in
theorem firstS_any (gf : Nat) (cv : Value) (eg : ∀ args w, (callFunc gf args).run Tryz.prog w = .ok (.enter gf args) w) (f : List UInt8 → Bool) (A : Option Addr) (c : Nat) (l : List (List UInt8)) (w : World) (hT : TextsP w (fun _ => True) A l) (hlc : l.length ≤ 1099511627776)
    (hf : ∀ x, x ∈ l → Calls Tryz.prog gf #[encS x, cv] w fun e w' => e = .returned (.bool (f x)) ∧ w' = w) :
    Calls Tryz.prog 81 #[.slice A l.length c, .func (.func gf) #[] #[cv]] w fun e w' => e = .returned (.tuple #[encS ((l.find? f).getD []), .bool (l.find? f).isSome]) ∧ w' = w := by
  have HT := hid hT
  have HF := hid hf
  clear hT hf
  go_enter Tryz.func81, Tryz.ntmps81
  go_wp2_with fail
  go_loopw [4, 10] (fun v vi wr => ∃ k : Nat, vi = .int .i64 k ∧ k ≤ l.length ∧ v = encS [] ∧ Hid (∀ x ∈ l.take k, f x = false) ∧ wr = w) (fun _ vi _ => l.length - (intOf vi).toNat)
  case atStart => exact ⟨0, rfl, Nat.zero_le _, rfl, hid (by simp), rfl⟩
  case round =>
    obtain ⟨k, rfl, hk, rfl, HN, hwr⟩ := hrel
    have hwr := hwr.symm
    subst hwr
    have hk0 : (0 : Int) ≤ (k : Int) := by omega
    by_cases hlt : k < l.length
    · have hkl : (k : Int) < (l.length : Int) := by omega
      obtain ⟨g, o, rfl, -, hcell⟩ := HT.out k hlt
      obtain ⟨x, hx⟩ : ∃ x, l[k] = x := ⟨_, rfl⟩
      have hxm : x ∈ l := by rw [← hx]; exact List.getElem_mem hlt
      have cF := HF.out x hxm
      rw [hx] at hcell
      cases hfx : f x
      · rw [hfx] at cF
        have HN2 : Hid (∀ y ∈ l.take (k + 1), f y = false) := hid (fun y hy => by
          rw [List.take_succ_eq_append_getElem hlt, List.mem_append] at hy
          rcases hy with hy | hy
          · exact HN.out y hy
          · simp at hy; rw [hy, hx]; exact hfx)
        clear hxm hfx
        go_wp2_with ((with_reducible refine cF.mono ?_); rintro e w1 ⟨rfl, hw⟩; have hw := hw.symm; subst hw)
        go_roundw
        case rel => exact ⟨k + 1, by go_num, by omega, rfl, HN2, trivial⟩
        case measure => simp [intOf]; omega
      · rw [hfx] at cF
        have hfd : l.find? f = some x := by
          have := find_at hlt HN.out (by rw [hx]; exact hfx)
          rw [this, hx]
        have HFD := hid hfd
        clear hxm hfx hfd
        go_wp2_with ((with_reducible refine cF.mono ?_); rintro e w1 ⟨rfl, hw⟩; have hw := hw.symm; subst hw)
        go_ret2
        rw [HFD.out]
        exact ⟨rfl, rfl⟩
    · have hke : k = l.length := by omega
      subst hke
      have hfd : l.find? f = none := by
        rw [List.find?_eq_none]
        intro x hx
        have := HN.out x (by rw [List.take_length]; exact hx)
        rw [this]
        exact Bool.false_ne_true
      have HFD := hid hfd
      clear hfd
      go_wp2_with fail
      go_ret2
      rw [HFD.out]
      exact ⟨rfl, rfl⟩
theorem wantFn1 (R : ByteArray) (Rb : Nat) (x : List UInt8) (w : World) (h : w.cell? ⟨Rb, 0, none⟩ = some (.string R)) :
    Calls Tryz.prog 82 #[encS x, .pointer (some ⟨Rb, 0, none⟩)] w fun e w' => e = .returned (.bool (Lib.hasPrefix R.data.toList x)) ∧ w' = w := by
  have cP := fun W => Tryz.strings_HasPrefix R ⟨x.toArray⟩ W
  rw [show (⟨x.toArray⟩ : ByteArray).data.toList = x by simp] at cP
  go_enter Tryz.func82, Tryz.ntmps82
  go_wp2_with (go_at_call 56; (with_reducible refine (cP _).mono ?_); rintro e w1 ⟨rfl, hw⟩; have hw := hw.symm; subst hw)
  go_ret
  exact ⟨rfl, rfl⟩
theorem wantFn2 (R : ByteArray) (Rb : Nat) (x : List UInt8) (w : World) (h : w.cell? ⟨Rb, 0, none⟩ = some (.string R)) :
    Calls Tryz.prog 83 #[encS x, .pointer (some ⟨Rb, 0, none⟩)] w fun e w' => e = .returned (.bool (Lib.hasPrefix x R.data.toList)) ∧ w' = w := by
  have cP := fun W => Tryz.strings_HasPrefix ⟨x.toArray⟩ R W
  rw [show (⟨x.toArray⟩ : ByteArray).data.toList = x by simp] at cP
  go_enter Tryz.func83, Tryz.ntmps83
  go_wp2_with (go_at_call 56; (with_reducible refine (cP _).mono ?_); rintro e w1 ⟨rfl, hw⟩; have hw := hw.symm; subst hw)
  go_ret
  exact ⟨rfl, rfl⟩
end Go.Proofs.YtialepcdbpofkaaGreat
