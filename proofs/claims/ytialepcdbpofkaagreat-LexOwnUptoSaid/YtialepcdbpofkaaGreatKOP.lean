/- What the statement of Own13Said leans on, part 16: ArDp, ArAl, ArPa, ArN, ArPb, ArN2, LyG, LyX, Own13, Lift0, OpT, LiftT, UptoO13. Conditions: each theorem's own. -/
import Derived.Test.YtialepcdbpofkaaGreatKOO

namespace Go.Proofs.YtialepcdbpofkaaGreat
open Go.RowKit
open Go.Lib (hid)
def kidsT : T → List T
  | .leaf .. => [] | .one _ a => [a] | .two _ a b => [a, b] | .three _ a b c => [a, b, c]
def sz : T → Nat
  | .leaf .. => 0 | .one _ a => sz a + 1 | .two _ a b => sz a + sz b + 1 | .three _ a b c => sz a + sz b + sz c + 1
theorem kids_len (t : T) : (kidsT t).length = lenT t := by cases t <;> rfl
theorem kids_sz (t : T) (k : Nat) (h : k < (kidsT t).length) : sz (kidsT t)[k] < sz t := by
  cases t with
  | leaf => exact absurd h (by simp [kidsT])
  | one op a =>
    obtain rfl : k = 0 := by simpa [kidsT] using h
    show sz a < sz a + 1; omega
  | two op a b =>
    have : k = 0 ∨ k = 1 := by simp [kidsT] at h; omega
    rcases this with rfl | rfl
    · show sz a < sz a + sz b + 1; omega
    · show sz b < sz a + sz b + 1; omega
  | three op a b c =>
    have : k = 0 ∨ k = 1 ∨ k = 2 := by simp [kidsT] at h; omega
    rcases this with rfl | rfl | rfl
    · show sz a < sz a + sz b + sz c + 1; omega
    · show sz b < sz a + sz b + sz c + 1; omega
    · show sz c < sz a + sz b + sz c + 1; omega
theorem Tree.kid {w : World} {P : Nat → Prop} {A : Option Addr} {c : Nat} {t : T} (h : Tree w P A c t) (k : Nat) (hk : k < (kidsT t).length) :
    ∃ g A1 k1, A = some ⟨g, 0, none⟩ ∧ w.cell? ⟨g, k * 4, none⟩ = some (c0 (kidsT t)[k]) ∧ w.cell? ⟨g, k * 4 + 1, none⟩ = some (c1 (kidsT t)[k]) ∧ w.cell? ⟨g, k * 4 + 2, none⟩ = some (c2 (kidsT t)[k]) ∧ w.cell? ⟨g, k * 4 + 3, none⟩ = some (.slice A1 (lenT (kidsT t)[k]) k1) ∧ Tree w P A1 k1 (kidsT t)[k] := by
  cases t with
  | leaf => exact absurd hk (by simp [kidsT])
  | one op a =>
    obtain rfl : k = 0 := by simpa [kidsT] using hk
    obtain ⟨g, A1, k1, h1, -, -, h4, h5⟩ := h
    exact ⟨g, A1, k1, h1, (cell_heap h4 0).trans rfl, (cell_heap h4 1).trans rfl, (cell_heap h4 2).trans rfl, (cell_heap h4 3).trans rfl, h5⟩
  | two op a b =>
    obtain ⟨g, A1, k1, A2, k2, h1, -, -, h4, h5, h6⟩ := h
    have : k = 0 ∨ k = 1 := by simp [kidsT] at hk; omega
    rcases this with rfl | rfl
    · exact ⟨g, A1, k1, h1, (cell_heap h4 0).trans rfl, (cell_heap h4 1).trans rfl, (cell_heap h4 2).trans rfl, (cell_heap h4 3).trans rfl, h5⟩
    · exact ⟨g, A2, k2, h1, (cell_heap h4 4).trans rfl, (cell_heap h4 5).trans rfl, (cell_heap h4 6).trans rfl, (cell_heap h4 7).trans rfl, h6⟩
  | three op a b c =>
    obtain ⟨g, A1, k1, A2, k2, A3, k3, h1, -, -, h4, h5, h6, h7⟩ := h
    have : k = 0 ∨ k = 1 ∨ k = 2 := by simp [kidsT] at hk; omega
    rcases this with rfl | rfl | rfl
    · exact ⟨g, A1, k1, h1, (cell_heap h4 0).trans rfl, (cell_heap h4 1).trans rfl, (cell_heap h4 2).trans rfl, (cell_heap h4 3).trans rfl, h5⟩
    · exact ⟨g, A2, k2, h1, (cell_heap h4 4).trans rfl, (cell_heap h4 5).trans rfl, (cell_heap h4 6).trans rfl, (cell_heap h4 7).trans rfl, h6⟩
    · exact ⟨g, A3, k3, h1, (cell_heap h4 8).trans rfl, (cell_heap h4 9).trans rfl, (cell_heap h4 10).trans rfl, (cell_heap h4 11).trans rfl, h7⟩
def below_ (most : Nat) (l : List T) : Nat := l.foldl (fun b t => max b (min (most - 1) (hgt t))) 0
theorem below_le (most : Nat) (l : List T) : below_ most l ≤ most - 1 := by
  have : ∀ (l : List T) b, b ≤ most - 1 → l.foldl (fun b t => max b (min (most - 1) (hgt t))) b ≤ most - 1 := by
    intro l
    induction l with
    | nil => exact fun b h => h
    | cons t r ih => exact fun b h => ih _ (by show max b (min (most - 1) (hgt t)) ≤ most - 1; omega)
  exact this l 0 (Nat.zero_le _)
theorem below_snoc (most : Nat) (l : List T) (t : T) : below_ most (l ++ [t]) = max (below_ most l) (min (most - 1) (hgt t)) := by simp [below_, List.foldl_append]
theorem below_all (most : Nat) (t : T) (h : 1 ≤ most) : below_ most (kidsT t) + 1 = min most (hgt t) := by
  cases t <;> simp only [below_, kidsT, List.foldl, hgt] <;> omega
theorem below_stuck (most : Nat) (l : List T) (k : Nat) (h : below_ most (l.take k) = most - 1) : below_ most l = most - 1 := by
  have : ∀ (l : List T) b, b = most - 1 → l.foldl (fun b t => max b (min (most - 1) (hgt t))) b = most - 1 := by
    intro l
    induction l with
    | nil => exact fun b h => h
    | cons t r ih => exact fun b h => ih _ (by show max b (min (most - 1) (hgt t)) = most - 1; omega)
  have e : below_ most l = (l.drop k).foldl (fun b t => max b (min (most - 1) (hgt t))) (below_ most (l.take k)) := by
    unfold below_
    rw [← List.foldl_append, List.take_append_drop]
  rw [e]
  exact this _ _ h
set_option maxHeartbeats 2000000 in
theorem deep_any : ∀ (n : Nat) (t : T), sz t = n → ∀ (A : Option Addr) (c : Nat) (P : Nat → Prop) (most : Nat) (w : World), Tree w P A c t → 1 ≤ most → most ≤ 1000 →
    Calls Tryz.prog 119 #[.agg #[c0 t, c1 t, c2 t, .slice A (lenT t) c], .int .i64 most] w fun e w' => e = .returned (.int .i64 (min most (hgt t) : Nat)) ∧ Below w.heap.size w w' := by
  intro n
  induction n using Nat.strongRecOn with
  | _ n ih =>
    intro t hn A c P most w hT h1 h9
    have HE := hid (below_all most t h1)
    have hkl := kids_len t
    have hl3 : lenT t ≤ 3 := by cases t <;> simp [lenT]
    have hX : Var4 (w.alloc (.cells #[c0 t, c1 t, c2 t, .slice A (lenT t) c] 98)) w.heap.size (c0 t) (c1 t) (c2 t) (.slice A (lenT t) c) := heap_alloc_new _ _
    have hal : Below w.heap.size w (w.alloc (.cells #[c0 t, c1 t, c2 t, .slice A (lenT t) c] 98)) := (Below.refl _ _).alloc (Nat.le_refl _) _
    have hT0 := hT.below hal
    have x3 := hX.a3
    have hm1 : (1 : Int) ≤ (most : Int) := by omega
    have hm9 : (most : Int) ≤ 1000 := by omega
    go_enter Tryz.func119, Tryz.ntmps119
    generalize hw0 : w.alloc (.cells #[c0 t, c1 t, c2 t, .slice A (lenT t) c] 98) = w0 at *
    go_wp2
    clear hw0
    go_loopw [5, 11] (fun b i wr => ∃ k : Nat, k ≤ (kidsT t).length ∧ i = .int .i64 k ∧ b = .int .i64 (below_ most ((kidsT t).take k) : Nat) ∧ Below w.heap.size w wr ∧ Tree wr P A c t) (fun _ i _ => (kidsT t).length - (intOf i).toNat)
    case atStart => exact ⟨0, Nat.zero_le _, rfl, rfl, hal, hT0⟩
    case round =>
      obtain ⟨k, hk, rfl, rfl, hB, hTr⟩ := hrel
      have hle := below_le most ((kidsT t).take k)
      by_cases hlt : k < (kidsT t).length
      · obtain ⟨g, A1, k1, rfl, d0, d1, d2, d3, hTk⟩ := hTr.kid k hlt
        have hsn : below_ most ((kidsT t).take (k + 1)) = max (below_ most ((kidsT t).take k)) (min (most - 1) (hgt (kidsT t)[k])) := by
          rw [List.take_succ_eq_append_getElem hlt, below_snoc]
        have HST := hid (below_stuck most (kidsT t) k)
        have hg1 : (k : Int) < (lenT t : Int) := by omega
        have hszk := kids_sz t k hlt
        have cD := fun m W (hTW : Tree W P A1 k1 (kidsT t)[k]) h1 h2 => ih (sz (kidsT t)[k]) (by omega) (kidsT t)[k] rfl A1 k1 P m W hTW h1 h2
        generalize (kidsT t)[k] = tk at *
        obtain ⟨b, hb⟩ : ∃ b, below_ most ((kidsT t).take k) = b := ⟨_, rfl⟩
        rw [hb] at hsn hle HST
        rw [hb]
        have hal2 : Below wr.heap.size wr (wr.alloc (.cells #[c0 tk, c1 tk, c2 tk, .slice A1 (lenT tk) k1] 98)) := (Below.refl _ _).alloc (Nat.le_refl _) _
        have hY : Var4 (wr.alloc (.cells #[c0 tk, c1 tk, c2 tk, .slice A1 (lenT tk) k1] 98)) wr.heap.size (c0 tk) (c1 tk) (c2 tk) (.slice A1 (lenT tk) k1) := heap_alloc_new _ _
        have hTk2 := hTk.below hal2
        have hTr2 := hTr.below hal2
        have hB2 := hB.trans (hal2.mono hB.size)
        generalize hw2 : wr.alloc (.cells #[c0 tk, c1 tk, c2 tk, .slice A1 (lenT tk) k1] 98) = w2 at *
        have y0 := hY.a0; have y1 := hY.a1; have y2 := hY.a2; have y3 := hY.a3
        clear ih hn hszk hb hT hT0 hTr hTk hal
        by_cases hst : b = most - 1
        · have HF : Hid (min most (hgt t) = b + 1) := hid (by rw [← HE.out, HST.out hst, hst])
          have gst : ((b : Int) == (most : Int) - 1) = true := by simp; omega
          clear HE HST hsn cD hst
          go_wp2
          go_ret
          exact ⟨by rw [HF.out]; simp, hB2⟩
        · have gst : ((b : Int) == (most : Int) - 1) = false := by simp; omega
          have cC := cD (most - 1) w2 hTk2 (by omega) (by omega)
          rw [show ((most - 1 : Nat) : Int) = (most : Int) - 1 by omega] at cC
          have HSN := hid hsn
          clear HST hsn cD hst
          go_wp2_with (go_at_call 119; (with_reducible refine cC.mono ?_); rintro e w3 ⟨rfl, hb3⟩)
          go_roundw
          case rel => exact ⟨k + 1, by omega, by go_num, by rw [HSN.out]; simp; try omega, hB2.trans (hb3.mono hB2.size), hTr2.below hb3⟩
          case measure => simp [intOf]; omega
      · have hke : k = (kidsT t).length := by omega
        subst hke
        have HF : Hid (min most (hgt t) = below_ most (kidsT t) + 1) := hid HE.out.symm
        rw [List.take_length] at hle
        rw [List.take_length]
        have hg1 : decide (((kidsT t).length : Int) < (lenT t : Int)) = false := by simp; omega
        clear ih hn HE hT hT0 hal
        generalize below_ most (kidsT t) = b at *
        go_wp2
        go_ret
        exact ⟨by rw [HF.out]; simp, hB⟩
theorem Deep_any (t : T) (A : Option Addr) (c : Nat) (P : Nat → Prop) (w : World) (hT : Tree w P A c t) :
    Calls Tryz.prog 106 #[.agg #[c0 t, c1 t, c2 t, .slice A (lenT t) c]] w fun e w' => e = .returned (.int .i64 (min 1000 (hgt t) : Nat)) ∧ Below w.heap.size w w' := by
  have hX : Var4 (w.alloc (.cells #[c0 t, c1 t, c2 t, .slice A (lenT t) c] 98)) w.heap.size (c0 t) (c1 t) (c2 t) (.slice A (lenT t) c) := heap_alloc_new _ _
  have hal : Below w.heap.size w (w.alloc (.cells #[c0 t, c1 t, c2 t, .slice A (lenT t) c] 98)) := (Below.refl _ _).alloc (Nat.le_refl _) _
  have cD := deep_any (sz t) t rfl A c P 1000 _ (hT.below hal) (by omega) (by omega)
  rw [show ((1000 : Nat) : Int) = 1000 from rfl] at cD
  have x0 := hX.a0; have x1 := hX.a1; have x2 := hX.a2; have x3 := hX.a3
  generalize hm : min 1000 (hgt t) = m at *
  go_enter Tryz.func106, Tryz.ntmps106
  go_wp2_with (go_at_call 119; (with_reducible refine cD.mono ?_); rintro e w3 ⟨rfl, hb3⟩)
  go_ret
  exact ⟨rfl, hal.trans (hb3.mono hal.size)⟩
end Go.Proofs.YtialepcdbpofkaaGreat

namespace Go.Proofs.YtialepcdbpofkaaGreat
open Go.RowKit
open Go.Lib (hid)
theorem ih_all (s : ByteArray) (bash : Bool) (hs : s.size ≤ 16384) : ∀ n, IH s bash n := by
  intro n
  induction n using Nat.strongRecOn with
  | _ n ih =>
    cases n with
    | zero =>
      exact ⟨fun l _ B d st w q _ _ _ h => by simp [run] at h, fun l _ B d st w q _ _ _ h => by simp [run] at h, fun B d st w q _ _ _ h => by simp [run] at h, fun B d st w q _ _ _ h => by simp [run] at h,
        fun B d st w q _ _ _ h => by simp [run] at h, fun B d st w q _ _ _ h => by simp [run] at h, fun x B d st w q old Bx N1 A c _ _ _ h => by simp [run] at h⟩
    | succ n =>
      have ih' : ∀ m, m ≤ n → IH s bash m := fun m hm => ih m (by omega)
      have ih0 := ih' n (Nat.le_refl _)
      exact ⟨chain_step s bash hs n ih', above_step s bash n ih0, asg_step s bash hs n ih', cho_step s bash hs n ih', pow_step s bash hs n ih', opd_step s bash hs n ih', tail_step s bash hs n ih0⟩
def AllPost (B : Nat) (w : World) : Except (Int × Nat) T → Ending → World → Prop
  | .ok x, e, w' => Kept B w w' ∧ ∃ A c, e = .returned (.agg #[c0 x, c1 x, c2 x, .slice A (lenT x) c]) ∧ Tree w' (fun g => w.heap.size ≤ g) A c x
  | .error (e0, p), e, w' => Kept B w w' ∧ e = .panicked [faultV e0 p]
set_option maxHeartbeats 2000000 in
theorem all_any (B : Nat) (s : ByteArray) (bash : Bool) (w : World) (h : Rd w B s bash ⟨0, 0, 0, [], 0⟩ 0) (hs : s.size ≤ 16384) (n : Nat) (q : Except (Int × Nat) T) (hq : top (nxL bash s.data.toList) n = some q) :
    Calls Tryz.prog 98 #[.pointer (some ⟨B, 0, none⟩)] w (AllPost B w q) := by
  have hB := h.lt
  have hA := h.alloc (.cells #[.string ⟨#[]⟩, .string ⟨#[]⟩, .int .i64 0, .slice none 0 0] 98)
  have hK := (Kept.refl B w).alloc (.cells #[.string ⟨#[]⟩, .string ⟨#[]⟩, .int .i64 0, .slice none 0 0] 98)
  have hV := Var4z.new w
  have hsz : w.heap.size < (w.alloc (.cells #[.string ⟨#[]⟩, .string ⟨#[]⟩, .int .i64 0, .slice none 0 0] 98)).heap.size := hV.lt
  have hNB : w.heap.size ≠ B := by omega
  have cN := next_any B s bash _ 0 _ hA hs (Nat.zero_le _)
  have hgN := (nx_good bash s.data.toList 0 (Nat.zero_le _)).1
  rw [len_toList] at hgN
  unfold top at hq
  have cC := (ih_all s bash hs n).chain 1 (.inl rfl) B 0 (nxL bash s.data.toList 0)
  rw [show ((1 : Nat) : Int) = 1 from rfl] at cC
  generalize nxL bash s.data.toList 0 = sN at *
  go_enter Tryz.func98, Tryz.ntmps98
  generalize hw0 : w.alloc (.cells #[.string ⟨#[]⟩, .string ⟨#[]⟩, .int .i64 0, .slice none 0 0] 98) = w0 at *
  go_wp2_with fail
  refine cN.mono ?_
  rintro e w1 ⟨rfl, hr1, hk1⟩
  have hv1 := hV.kept hk1 hNB
  have hk1 := hK.trans hk1
  have k3 := hr1.c3
  clear cN hA hK hV hw0 h
  by_cases he : sN.kind = 1
  · rw [if_pos he] at hq
    obtain rfl : q = .ok (.leaf [] 0) := by cases hq; rfl
    have g1 : ((sN.kind : Int) == 1) = true := by simp; omega
    have v0 := hv1.a0; have v1 := hv1.a1; have v2 := hv1.a2; have v3 := hv1.a3; have f0 := hv1.free 0; have f1 := hv1.free 1; have f2 := hv1.free 2; have f3 := hv1.free 3
    clear hq he
    go_wp2_with fail
    refine ret_sum rfl rfl (hv1.set _ _ _ _) rfl ⟨hk1.set4 (Nat.le_refl _) _ _ _ _, none, 0, rfl, rfl, rfl⟩
  · rw [if_neg he] at hq
    have g1 : ((sN.kind : Int) == 1) = false := by simp; omega
    clear he
    cases hrun : run (nxL bash s.data.toList) n (.chain 1) 0 sN with
    | none => rw [hrun] at hq; cases hq
    | some r =>
      rw [hrun] at hq
      have cC := cC w1 r (by omega) hr1 hgN hrun
      cases r with
      | error y =>
        obtain ⟨e0, p⟩ := y
        obtain rfl : q = .error (e0, p) := by cases hq; rfl
        clear hq hrun
        go_wp2_with fail
        refine cC.mono ?_
        rintro e w2 ⟨hk2, rfl⟩
        go_wp2_with fail
        exact ⟨rfl, hk1.trans hk2, rfl⟩
      | ok y =>
        obtain ⟨x, st⟩ := y
        clear hrun
        go_wp2_with fail
        refine cC.mono ?_
        rintro e w2 ⟨hk2, ⟨A, c, rfl, hT⟩, hr2, hg2⟩
        have hX : Var4 (w2.alloc (.cells #[c0 x, c1 x, c2 x, .slice A (lenT x) c] 98)) w2.heap.size (c0 x) (c1 x) (c2 x) (.slice A (lenT x) c) := heap_alloc_new _ _
        have hal : Below w2.heap.size w2 (w2.alloc (.cells #[c0 x, c1 x, c2 x, .slice A (lenT x) c] 98)) := (Below.refl _ _).alloc (Nat.le_refl _) _
        have hlt1 := hv1.lt
        have hr3 := hr2.below hal
        have hv3 := (hv1.kept hk2 hNB).below hal
        have hT3 := hT.below hal
        have hk3 := (hk1.trans hk2).trans (.of_below hal)
        generalize hw3 : w2.alloc (.cells #[c0 x, c1 x, c2 x, .slice A (lenT x) c] 98) = w3 at *
        have x0 := hX.a0; have x1 := hX.a1; have x2 := hX.a2; have x3 := hX.a3
        have k3 := hr3.c3
        clear cC hr2 hT hal
        by_cases he : st.kind = 1
        · have g2 : ((st.kind : Int) != 1) = false := by simp; omega
          have hq : (if 60 < hgt x then some (.error (42, st.place)) else some (.ok x)) = some q := by
            have : st.kind = 1 := he
            simp only [this, if_true] at hq
            exact hq
          have cD := Deep_any x A c _ w3 hT3
          have hh : decide ((60 : Int) < ((min 1000 (hgt x) : Nat) : Int)) = decide (60 < hgt x) := by
            rw [Bool.eq_iff_iff]; simp; omega
          obtain ⟨hm, hhm⟩ : ∃ hm : Nat, min 1000 (hgt x) = hm := ⟨_, rfl⟩
          rw [hhm] at cD hh
          by_cases h60 : 60 < hgt x
          · rw [if_pos h60] at hq
            obtain rfl : q = .error (42, st.place) := by cases hq; rfl
            rw [decide_eq_true h60] at hh
            have hh2 : (60 : Int) < (hm : Int) := by simpa using hh
            clear hhm h60 hq hh he
            go_wp2_with fail
            refine cD.mono ?_
            rintro e w4 ⟨rfl, hb4⟩
            have cW := wrong_any B 42 s bash st 0 _ (hr3.below hb4)
            go_wp2_with fail
            refine cW.mono ?_
            rintro e w5 ⟨rfl, hb5⟩
            go_wp2_with fail
            exact ⟨rfl, (hk3.trans (.of_below hb4)).trans (.of_below hb5), rfl⟩
          · rw [if_neg h60] at hq
            obtain rfl : q = .ok x := by cases hq; rfl
            rw [decide_eq_false h60] at hh
            clear hhm h60 hq he
            go_wp2_with fail
            refine cD.mono ?_
            rintro e w4 ⟨rfl, hb4⟩
            have hX4 := hX.below hb4
            have hv4 := hv3.below hb4
            have hT4 := hT3.below hb4
            have x0 := hX4.a0; have x1 := hX4.a1; have x2 := hX4.a2; have x3 := hX4.a3
            have v0 := hv4.a0; have v1 := hv4.a1; have v2 := hv4.a2; have v3 := hv4.a3; have f0 := hv4.free 0; have f1 := hv4.free 1; have f2 := hv4.free 2; have f3 := hv4.free 3
            go_wp2_with fail
            exact ret_sum rfl rfl (hv4.set _ _ _ _) rfl ⟨(hk3.trans (.of_below hb4)).set4 (Nat.le_refl _) _ _ _ _, A, c, rfl, (hT4.set4 (fun g hg e => by omega) _ _ _ _).weaken (fun g _ hg => by omega)⟩
        · have g2 : ((st.kind : Int) != 1) = true := by simp; omega
          obtain rfl : q = .error (33, st.place) := by
            have : ¬ st.kind = 1 := he
            simp only [this, if_false] at hq
            cases hq; rfl
          have cW := wrong_any B 33 s bash st 0 _ hr3
          clear hq he
          go_wp2_with fail
          refine cW.mono ?_
          rintro e w4 ⟨rfl, hb4⟩
          go_wp2_with fail
          exact ⟨rfl, hk3.trans (.of_below hb4), rfl⟩
end Go.Proofs.YtialepcdbpofkaaGreat

namespace Go.Proofs.YtialepcdbpofkaaGreat
open Go.RowKit
open Go.Lib (hid)
def Cells3 (B : Nat) (x y z k : Value) (n e : Int) (w : World) : Prop :=
  Var4 w B x y z k ∧ w.heap[B + 1]? = some (.cells #[.int .i64 n] 3 (0, 0)) ∧ w.heap[B + 2]? = some (.cells #[.int .i64 e] 26 (0, 0))
theorem run_assert_fault (v : Value) (w : World) : (Instr.typeAssert (.iface 121 v) 20 121 false).run Tryz.prog w = .ok v w := by
  simp [Instr.typeAssert, run_underlying Tryz.underlying121, go_sem, Result.andThen]
theorem fixed_idle (a b c : Addr) (w : World) :
    CallsD Tryz.prog 97 #[.pointer (some a), .pointer (some b), .pointer (some c)] .returning w fun e u' w' => e = .returned (.tuple #[]) ∧ u' = .returning ∧ w' = w := by
  refine callsD_of_wpS Tryz.func97 rfl fun c₀ cs hu => ?_
  apply wpS_seq
  apply wpS_region
  simp [wpOpsS, go_sem, recoverD, hu, Tryz.ntmps97, Exit.thenS]
  refine wpS_of_wp ?_
  go_wp2
  cases c₀
  simp_all [bodyPostS, results, Tryz.results97]
def stored3 (w : World) (B : Nat) (x y z k : Value) (n e : Int) : World :=
  (((((w.setCell ⟨B, 0, none⟩ x).setCell ⟨B, 1, none⟩ y).setCell ⟨B, 2, none⟩ z).setCell ⟨B, 3, none⟩ k).setCell ⟨B + 1, 0, none⟩ (.int .i64 n)).setCell ⟨B + 2, 0, none⟩ (.int .i64 e)
theorem set_ne {w : World} {b c : Nat} (h : c ≠ b) (v : Value) : (w.setCell ⟨b, 0, none⟩ v).heap[c]? = w.heap[c]? := Below.heap_setCell _ _ _ _ h
theorem Cells3.stored {B : Nat} {x y z k : Value} {n0 e0 : Int} {w : World} (h : Cells3 B x y z k n0 e0 w) (x' y' z' k' : Value) (n e : Int) : Cells3 B x' y' z' k' n e (stored3 w B x' y' z' k' n e) := by
  obtain ⟨h1, h2, h3⟩ := h
  refine ⟨?_, ?_, ?_⟩
  · exact (set_ne (by omega) _).trans ((set_ne (by omega) _).trans (h1.set x' y' z' k'))
  · exact (set_ne (by omega) _).trans (one_setCell ((heap_set4 _ _ _ _ (by omega)).trans h2))
  · exact one_setCell ((set_ne (by omega) _).trans ((heap_set4 _ _ _ _ (by omega)).trans h3))
theorem below_stored {B : Nat} {a w : World} (h : Below B a w) (x' y' z' k' : Value) (n e : Int) : Below B a (stored3 w B x' y' z' k' n e) :=
  ((below_set4 h (Nat.le_refl _) _ _ _ _).setCell (Nat.le_add_right _ _) _).setCell (Nat.le_add_right _ _) _
set_option maxHeartbeats 2000000 in
theorem fixed_panic (B : Nat) (x y z k : Value) (n0 e0 : Int) (n e : Int) (older : List PanicEntry) (w : World) (h : Cells3 B x y z k n0 e0 w) :
    CallsD Tryz.prog 97 #[.pointer (some ⟨B, 0, none⟩), .pointer (some ⟨B + 1, 0, none⟩), .pointer (some ⟨B + 2, 0, none⟩)] (.panicking (faultV e n :: older)) w fun e' u' w' =>
      e' = .returned (.tuple #[]) ∧ u' = .panicking ({ faultV e n with recovered := true } :: older) ∧ Cells3 B (.string ⟨#[]⟩) (.string ⟨#[]⟩) (.int .i64 0) (.slice none 0 0) n e w' ∧ Below B w w' := by
  have hta := run_assert_fault
  refine callsD_of_wpS Tryz.func97 rfl fun c₀ cs hu => ?_
  apply wpS_seq
  apply wpS_region
  simp [wpOpsS, go_sem, recoverD, hu, Tryz.ntmps97, Exit.thenS, faultV]
  refine wpS_of_wp ?_
  change Code.wp _ _ _ ⟨#[.pointer (some ⟨B, 0, none⟩), .pointer (some ⟨B + 1, 0, none⟩), .pointer (some ⟨B + 2, 0, none⟩), .iface 121 (.agg #[.int .i64 e, .int .i64 n]), undef, .iface 121 (.agg #[.int .i64 e, .int .i64 n]), undef, undef, undef, undef, undef, undef, undef, undef, undef], []⟩ _
  go_wp2
  have hB2 : B + 2 < w.heap.size := lt_of_block h.2.2
  have h' : Cells3 B x y z k n0 e0 (w.alloc (.cells #[.int .i64 e, .int .i64 n] 121)) :=
    ⟨h.1.alloc _, (Below.heap_alloc w _ (B + 1) (by omega)).trans h.2.1, (Below.heap_alloc w _ (B + 2) (by omega)).trans h.2.2⟩
  have hn : (w.alloc (.cells #[.int .i64 e, .int .i64 n] 121)).heap[w.heap.size]? = some (.cells #[.int .i64 e, .int .i64 n] 121 (0, 0)) := heap_alloc_new w _
  have hbl : Below B w (w.alloc (.cells #[.int .i64 e, .int .i64 n] 121)) := (Below.refl B w).alloc (by omega) _
  have HX : Hid (Cells3 B x y z k n0 e0 (w.alloc (.cells #[.int .i64 e, .int .i64 n] 121)) ∧ Below B w (w.alloc (.cells #[.int .i64 e, .int .i64 n] 121))) := hid ⟨h', hbl⟩
  generalize w.alloc (.cells #[.int .i64 e, .int .i64 n] 121) = w2 at *
  have a0 := h'.1.a0; have a1 := h'.1.a1; have a2 := h'.1.a2; have a3 := h'.1.a3
  have a4 := cell_of_one h'.2.1
  have a5 := cell_of_one h'.2.2
  have f0 := h'.1.free 0; have f1 := h'.1.free 1; have f2 := h'.1.free 2; have f3 := h'.1.free 3
  have f4 := free_of_one h'.2.1
  have f5 := free_of_one h'.2.2
  have b0 : w2.cell? ⟨w.heap.size, 0, none⟩ = some (.int .i64 e) := by simp [World.cell?, hn]
  have b1 : w2.cell? ⟨w.heap.size, 1, none⟩ = some (.int .i64 n) := by simp [World.cell?, hn]
  obtain ⟨N, hN⟩ : ∃ N, w.heap.size = N := ⟨_, rfl⟩
  rw [hN] at hB2 b0 b1 ⊢
  have hne1 : B ≠ N := by omega
  have hne2 : B + 1 ≠ N := by omega
  have hne3 : B + 2 ≠ N := by omega
  clear h h' hn hbl
  go_region
  have hst := HX.out.1.stored (.string ⟨#[]⟩) (.string ⟨#[]⟩) (.int .i64 0) (.slice none 0 0) n e
  have hbb := below_stored HX.out.2 (.string ⟨#[]⟩) (.string ⟨#[]⟩) (.int .i64 0) (.slice none 0 0) n e
  unfold stored3 at hst hbb
  generalize (((((w2.setCell ⟨B, 0, none⟩ (.string ⟨#[]⟩)).setCell ⟨B, 1, none⟩ (.string ⟨#[]⟩)).setCell ⟨B, 2, none⟩ (.int .i64 0)).setCell ⟨B, 3, none⟩ (.slice none 0 0)).setCell ⟨B + 1, 0, none⟩ (.int .i64 n)).setCell ⟨B + 2, 0, none⟩ (.int .i64 e) = w3 at *
  clear a0 a1 a2 a3 a4 a5 f0 f1 f2 f3 f4 f5 b0 b1 HX hta
  have hst : Cells3 B (.string ⟨#[]⟩) (.string ⟨#[]⟩) (.int .i64 0) (.slice none 0 0) n e w3.drew := hst
  have hbb := hbb.drew
  generalize w3.drew = w4 at *
  change bodyPostS _ _ _ _ _ _ _ _ _
  cases c₀
  simp [bodyPostS, results, Tryz.results97]
  exact ⟨hst, hbb⟩
end Go.Proofs.YtialepcdbpofkaaGreat

namespace Go.Proofs.YtialepcdbpofkaaGreat
open Go.RowKit
open Go.Lib (hid)
def Parsed (bash : Bool) (l : List UInt8) (q : Except (Int × Nat) T) : Prop := (16384 < l.length ∧ q = .error (5, 0)) ∨ (l.length ≤ 16384 ∧ ∃ n, top (nxL bash l) n = some q)
def treeOf : Except (Int × Nat) T → T
  | .ok x => x
  | .error _ => .leaf [] 0
def endOf (n : Nat) : Except (Int × Nat) T → Nat
  | .ok _ => n
  | .error e => e.2
def errOf : Except (Int × Nat) T → Int
  | .ok _ => 0
  | .error e => e.1
theorem parsed_total (bash : Bool) (l : List UInt8) : ∃ q, Parsed bash l q := by
  by_cases h : 16384 < l.length
  · exact ⟨_, .inl ⟨h, rfl⟩⟩
  · have hg := (nx_good bash l 0 (Nat.zero_le _)).1
    have h0 : lev0 1 := .inl rfl
    obtain ⟨r, hr, -⟩ := run_ends bash l ((K.chain 1).rank + 32 * (l.length - (nxL bash l 0).place) + 1) (.chain 1) 0 (nxL bash l 0) hg h0 (Nat.lt_succ_self _)
    generalize (K.chain 1).rank + 32 * (l.length - (nxL bash l 0).place) + 1 = n at hr
    have : ∃ q, top (nxL bash l) n = some q := by
      unfold top
      split
      · exact ⟨_, rfl⟩
      · rw [hr]
        cases r with
        | error e => exact ⟨_, rfl⟩
        | ok y =>
          obtain ⟨x, st⟩ := y
          dsimp only
          split
          · split
            · exact ⟨_, rfl⟩
            · exact ⟨_, rfl⟩
          · exact ⟨_, rfl⟩
    obtain ⟨q, hq⟩ := this
    exact ⟨q, .inr ⟨by omega, n, hq⟩⟩
end Go.Proofs.YtialepcdbpofkaaGreat

namespace Go.Proofs.YtialepcdbpofkaaGreat
open Go.RowKit
open Go.Lib (hid)
def ParsePost (n : Nat) (w : World) (q : Except (Int × Nat) T) (e : Ending) (w' : World) : Prop :=
  Below w.heap.size w w' ∧ ∃ A c, e = .returned (.tuple #[.agg #[c0 (treeOf q), c1 (treeOf q), c2 (treeOf q), .slice A (lenT (treeOf q)) c], .int .i64 (endOf n q), .int .i64 (errOf q)]) ∧ Tree w' (fun g => w.heap.size ≤ g) A c (treeOf q)
def W3 (w : World) : World := ((w.alloc (.cells #[.string ⟨#[]⟩, .string ⟨#[]⟩, .int .i64 0, .slice none 0 0] 98)).alloc (.cells #[.int .i64 0] 3)).alloc (.cells #[.int .i64 0] 26)
theorem cells_W3 (w : World) : Cells3 w.heap.size (.string ⟨#[]⟩) (.string ⟨#[]⟩) (.int .i64 0) (.slice none 0 0) 0 0 (W3 w) := by
  have h1 := heap_alloc_new w (.cells #[.string ⟨#[]⟩, .string ⟨#[]⟩, .int .i64 0, .slice none 0 0] 98)
  have h2 := heap_alloc_new (w.alloc (.cells #[.string ⟨#[]⟩, .string ⟨#[]⟩, .int .i64 0, .slice none 0 0] 98)) (.cells #[.int .i64 0] 3)
  have h3 := heap_alloc_new ((w.alloc (.cells #[.string ⟨#[]⟩, .string ⟨#[]⟩, .int .i64 0, .slice none 0 0] 98)).alloc (.cells #[.int .i64 0] 3)) (.cells #[.int .i64 0] 26)
  simp only [World.size_alloc] at h2 h3
  refine ⟨?_, ?_, h3⟩
  · exact (Below.heap_alloc _ _ _ (by simp; omega)).trans ((Below.heap_alloc _ _ _ (by simp)).trans h1)
  · exact (Below.heap_alloc _ _ _ (by simp)).trans h2
theorem below_W3 (w : World) : Below w.heap.size w (W3 w) := (((Below.refl _ w).alloc (Nat.le_refl _) _).alloc (by simp) _).alloc (by simp; omega) _
theorem size_W3 (w : World) : (W3 w).heap.size = w.heap.size + 3 := by simp [W3]
theorem Cells3.kept {N B : Nat} {x y z k : Value} {n e : Int} {w w' : World} (h : Cells3 N x y z k n e w) (hk : Kept B w w') (hB : N + 2 < B) : Cells3 N x y z k n e w' :=
  ⟨h.1.kept hk (by omega), (hk.block _ (lt_of_block h.2.1) (by omega)).trans h.2.1, (hk.block _ (lt_of_block h.2.2) (by omega)).trans h.2.2⟩
theorem Cells3.below {N : Nat} {x y z k : Value} {n e : Int} {w w' : World} (h : Cells3 N x y z k n e w) (hk : Below w.heap.size w w') : Cells3 N x y z k n e w' :=
  ⟨h.1.below hk, (hk.block _ (lt_of_block h.2.1)).trans h.2.1, (hk.block _ (lt_of_block h.2.2)).trans h.2.2⟩
set_option maxHeartbeats 2000000 in
theorem parse_any (s : ByteArray) (bash : Bool) (w : World) (hs : s.size ≤ maxLen) (q : Except (Int × Nat) T) (hq : Parsed bash s.data.toList q) :
    Calls Tryz.prog 84 #[.string s, .bool bash] w (ParsePost s.size w q) := by
  unfold maxLen at hs
  have hmf : ∀ (fn : Fn) (first cap : Array Value) (w : World), (Instr.makeFunc fn first cap).run Tryz.prog w = .ok (.func fn first cap) w := fun _ _ _ _ => rfl
  have hC := cells_W3 w
  have hB3 := below_W3 w
  have hs3 := size_W3 w
  rcases hq with ⟨hlen, rfl⟩ | ⟨hlen, n, hq⟩
  · rw [len_toList] at hlen
    have gl : (16384 : Int) < (s.size : Int) := by omega
    have a0 := hC.1.a0; have a1 := hC.1.a1; have a2 := hC.1.a2; have a3 := hC.1.a3
    have a4 := cell_of_one hC.2.1
    have a5 := cell_of_one hC.2.2
    have f0 := hC.1.free 0; have f1 := hC.1.free 1; have f2 := hC.1.free 2; have f3 := hC.1.free 3
    have f4 := free_of_one hC.2.1
    have f5 := free_of_one hC.2.2
    have hS := hC.stored (.string ⟨#[]⟩) (.string ⟨#[]⟩) (.int .i64 0) (.slice none 0 0) 0 5
    have hBS := below_stored hB3 (.string ⟨#[]⟩) (.string ⟨#[]⟩) (.int .i64 0) (.slice none 0 0) 0 5
    unfold W3 at *
    go_enter_defers Tryz.func84, Tryz.ntmps84
    generalize hW : ((w.alloc (.cells #[.string ⟨#[]⟩, .string ⟨#[]⟩, .int .i64 0, .slice none 0 0] 98)).alloc (.cells #[.int .i64 0] 3)).alloc (.cells #[.int .i64 0] 26) = W at *
    go_wp2
    unfold stored3 at hS hBS
    rw [show w.heap.size + 1 + 1 = w.heap.size + 2 by omega]
    generalize (((((W.setCell ⟨w.heap.size, 0, none⟩ (.string ⟨#[]⟩)).setCell ⟨w.heap.size, 1, none⟩ (.string ⟨#[]⟩)).setCell ⟨w.heap.size, 2, none⟩ (.int .i64 0)).setCell ⟨w.heap.size, 3, none⟩ (.slice none 0 0)).setCell ⟨w.heap.size + 1, 0, none⟩ (.int .i64 0)).setCell ⟨w.heap.size + 2, 0, none⟩ (.int .i64 5) = w5 at *
    have l0 := hS.1.a0; have l1 := hS.1.a1; have l4 := hS.1.a2; have l5 := hS.1.a3
    have l2 := cell_of_one hS.2.1
    have l3 := cell_of_one hS.2.2
    have HB := hid hBS
    clear a0 a1 a2 a3 a4 a5 f0 f1 f2 f3 f4 f5 hC hB3 hs3 hW hS hBS hmf gl hs
    simp [bodyPostD, Leaves, results, Tryz.results84, go_sem, l0, l1, l2, l3, l4, l5]
    exact ⟨HB.out, none, 0, rfl, rfl, rfl⟩
  · rw [len_toList] at hlen
    have gl : decide ((16384 : Int) < (s.size : Int)) = false := by simp; omega
    have hNB : w.heap.size + 2 < w.heap.size + 3 := by omega
    have hR : ∀ W1 : World, W1.heap.size = w.heap.size + 3 → Rd (W1.alloc (.cells #[.string s, .bool bash, .int .i64 0, .int .i64 0, .int .i64 0, .string ⟨#[]⟩, .int .i64 0, .int .i64 0] 127)) (w.heap.size + 3) s bash ⟨0, 0, 0, [], 0⟩ 0 := fun W1 h1 => by
      have := heap_alloc_new W1 (.cells #[.string s, .bool bash, .int .i64 0, .int .i64 0, .int .i64 0, .string ⟨#[]⟩, .int .i64 0, .int .i64 0] 127)
      rwa [h1] at this
    have hR := hR _ hs3
    have hal : Below (W3 w).heap.size (W3 w) ((W3 w).alloc (.cells #[.string s, .bool bash, .int .i64 0, .int .i64 0, .int .i64 0, .string ⟨#[]⟩, .int .i64 0, .int .i64 0] 127)) := (Below.refl _ _).alloc (Nat.le_refl _) _
    have hC := hC.below hal
    have hB3 := hB3.trans (hal.mono hB3.size)
    have cA := all_any (w.heap.size + 3) s bash _ hR hlen n q hq
    unfold W3 at *
    go_enter_defers Tryz.func84, Tryz.ntmps84
    go_wp2_with fail
    generalize (((w.alloc (.cells #[.string ⟨#[]⟩, .string ⟨#[]⟩, .int .i64 0, .slice none 0 0] 98)).alloc (.cells #[.int .i64 0] 3)).alloc (.cells #[.int .i64 0] 26)).alloc (.cells #[.string s, .bool bash, .int .i64 0, .int .i64 0, .int .i64 0, .string ⟨#[]⟩, .int .i64 0, .int .i64 0] 127) = W at *
    have hRo := hR
    clear hmf gl hal hs3 hR hq
    cases q with
    | error y =>
      obtain ⟨e0, p⟩ := y
      refine cA.mono ?_
      rintro e w1 ⟨hk1, rfl⟩
      have hC1 := hC.kept hk1 hNB
      have hB1 := hB3.trans (hk1.below hB3.size (by omega))
      clear hC hB3 cA
      go_wp2_with fail
      refine leaves_cons (f := 97) (args := #[.pointer (some ⟨w.heap.size, 0, none⟩), .pointer (some ⟨w.heap.size + 1, 0, none⟩), .pointer (some ⟨w.heap.size + 2, 0, none⟩)]) (by simp) (by simp [go_sem]) ?_
      refine (fixed_panic w.heap.size _ _ _ _ _ _ p e0 [] _ hC1).mono ?_
      rintro e' u' w2 ⟨rfl, rfl, hS, hb3⟩
      have l0 := hS.1.a0; have l1 := hS.1.a1; have l4 := hS.1.a2; have l5 := hS.1.a3
      have l2 := cell_of_one hS.2.1
      have l3 := cell_of_one hS.2.2
      have HB := hid (hB1.trans hb3)
      clear hS hb3 hC1 hB1
      simp [Leaves, settle, results, Tryz.results84, go_sem, l0, l1, l2, l3, l4, l5]
      exact ⟨HB.out, none, 0, rfl, rfl, rfl⟩
    | ok x =>
      refine cA.mono ?_
      rintro e w1 ⟨hk1, A, c, rfl, hT⟩
      have hC1 := hC.kept hk1 hNB
      have hB1 := hB3.trans (hk1.below hB3.size (by omega))
      have hWs : w.heap.size + 3 < W.heap.size := lt_of_block hRo
      have hT1 : Tree w1 (fun g => w.heap.size + 3 ≤ g) A c x := hT.weaken (fun g _ hg => by omega)
      have a0 := hC1.1.a0; have a1 := hC1.1.a1; have a2 := hC1.1.a2; have a3 := hC1.1.a3
      have a4 := cell_of_one hC1.2.1
      have a5 := cell_of_one hC1.2.2
      have f0 := hC1.1.free 0; have f1 := hC1.1.free 1; have f2 := hC1.1.free 2; have f3 := hC1.1.free 3
      have f4 := free_of_one hC1.2.1
      have f5 := free_of_one hC1.2.2
      have hS := hC1.stored (c0 x) (c1 x) (c2 x) (.slice A (lenT x) c) s.size 0
      have hBS := below_stored hB1 (c0 x) (c1 x) (c2 x) (.slice A (lenT x) c) s.size 0
      have hTS : Tree (stored3 w1 w.heap.size (c0 x) (c1 x) (c2 x) (.slice A (lenT x) c) s.size 0) (fun g => w.heap.size + 3 ≤ g) A c x :=
        Tree.frame (fun g _ hg => ⟨hg, (set_ne (by omega) _).trans ((set_ne (by omega) _).trans (heap_set4 _ _ _ _ (by omega)))⟩) x hT1
      clear hC hB3 cA hT hT1
      go_wp2_with fail
      unfold stored3 at hS hBS hTS
      rw [show w.heap.size + 1 + 1 = w.heap.size + 2 by omega]
      generalize (((((w1.setCell ⟨w.heap.size, 0, none⟩ (c0 x)).setCell ⟨w.heap.size, 1, none⟩ (c1 x)).setCell ⟨w.heap.size, 2, none⟩ (c2 x)).setCell ⟨w.heap.size, 3, none⟩ (.slice A (lenT x) c)).setCell ⟨w.heap.size + 1, 0, none⟩ (.int .i64 s.size)).setCell ⟨w.heap.size + 2, 0, none⟩ (.int .i64 0) = w5 at *
      have l0 := hS.1.a0; have l1 := hS.1.a1; have l4 := hS.1.a2; have l5 := hS.1.a3
      have l2 := cell_of_one hS.2.1
      have l3 := cell_of_one hS.2.2
      have HB := hid hBS
      have HT := hid (hTS.weaken (Q := fun g => w.heap.size ≤ g) (fun g _ hg => by omega))
      clear a0 a1 a2 a3 a4 a5 f0 f1 f2 f3 f4 f5 hC1 hB1 hS hBS hTS
      refine leaves_cons (f := 97) (args := #[.pointer (some ⟨w.heap.size, 0, none⟩), .pointer (some ⟨w.heap.size + 1, 0, none⟩), .pointer (some ⟨w.heap.size + 2, 0, none⟩)]) (by simp) (by simp [go_sem]) ?_
      refine (fixed_idle _ _ _ _).mono ?_
      rintro e' u' w2 ⟨rfl, rfl, rfl⟩
      simp [Leaves, settle, results, Tryz.results84, go_sem, l0, l1, l2, l3, l4, l5]
      exact ⟨HB.out, A, c, rfl, HT.out⟩
end Go.Proofs.YtialepcdbpofkaaGreat
namespace Go.Proofs.YtialepcdbpofkaaGreat
open Go.RowKit
open Go.Lib (hid)
def OkR (size : Nat) (r : Rs) : Prop := (∀ e, r = some (.error e) → e.2 ≤ size ∧ e.1 ≠ 0) ∧ ∀ x st, r = some (.ok (x, st)) → Good size st
theorem andThen_good {size : Nat} {r : Rs} {f : T → St → Rs} (h : OkR size r) (hf : ∀ x st, Good size st → OkR size (f x st)) : OkR size (r.andThen f) := by
  cases r with
  | none => exact ⟨fun _ h => (by cases h), fun _ _ h => (by cases h)⟩
  | some r =>
    cases r with
    | error e => exact ⟨fun e' h' => h.1 e' h', fun _ _ h => by cases h⟩
    | ok y => exact hf y.1 y.2 (h.2 _ _ rfl)
theorem got_good {size : Nat} {x : T} {st : St} (h : Good size st) : OkR size (got x st) := ⟨fun _ h => (by cases h), fun _ _ e => by cases e; exact h⟩
theorem bad_good {size : Nat} {e : Int} {p : Nat} (h : p ≤ size) (he : e ≠ 0 := by decide) : OkR size (bad e p) := ⟨fun _ e => (by cases e; exact ⟨h, he⟩), fun _ _ h => by cases h⟩
theorem Good.place_le {size : Nat} {st : St} (h : Good size st) : st.place ≤ size := Nat.le_trans h.le h.at_le
theorem run_good (bash : Bool) (s : List UInt8) : ∀ (n : Nat) (K : K) (d : Nat) (st : St), Good s.length st → OkR s.length (run (nxL bash s) n K d st)
  | 0, _, _, _, _ => ⟨fun _ h => (by cases h), fun _ _ h => (by cases h)⟩
  | n + 1, K, d, st, hg => by
    have ih := run_good bash s n
    have hn : ∀ st : St, Good s.length st → Good s.length (nxL bash s st.at_) := fun st h => (nx_good bash s st.at_ h.at_le).1
    cases K with
    | chain l => exact andThen_good (ih _ _ _ hg) fun x st h => ih _ _ _ h
    | loop l x =>
      rw [run]
      split
      · exact andThen_good (ih _ _ _ (hn _ hg)) fun y st2 h => ih _ _ _ h
      · exact got_good hg
    | above l =>
      rw [run]
      split
      · exact ih _ _ _ hg
      · split
        · exact ih _ _ _ hg
        · exact ih _ _ _ hg
    | asg =>
      refine andThen_good (ih _ _ _ hg) fun x st1 h1 => ?_
      split
      · split
        · exact andThen_good (ih _ _ _ (hn _ h1)) fun y st2 h => got_good h
        · exact bad_good h1.place_le
      · exact got_good h1
    | cho =>
      refine andThen_good (ih _ _ _ hg) fun x st1 h1 => ?_
      split
      · exact ih _ _ _ (hn _ h1)
      · exact got_good h1
    | tail x =>
      refine andThen_good (ih _ _ _ hg) fun y st1 h1 => ?_
      split
      · exact andThen_good (ih _ _ _ (hn _ h1)) fun y st2 h => got_good h
      · exact bad_good h1.place_le
    | pow =>
      refine andThen_good (ih _ _ _ hg) fun x st1 h1 => ?_
      split
      · exact andThen_good (ih _ _ _ (hn _ h1)) fun y st2 h => got_good h
      · exact got_good h1
    | wth k' =>
      rw [run]
      split
      · exact bad_good hg.place_le
      · exact ih _ _ _ hg
    | opd =>
      rw [run]
      have h1 := hn _ hg
      split
      · exact got_good h1
      · split
        · split
          · exact got_good (hn _ h1)
          · exact got_good h1
        · split
          · exact andThen_good (ih _ _ _ h1) fun y st2 h => got_good h
          · split
            · exact andThen_good (ih _ _ _ h1) fun y st2 h => got_good h
            · split
              · exact ih _ _ _ h1
              · split
                · split
                  · exact got_good (hn _ h1)
                  · exact bad_good h1.place_le
                · split
                  · refine andThen_good (ih _ _ _ h1) fun y st2 h => ?_
                    split
                    · exact got_good (hn _ h)
                    · exact bad_good h.place_le
                  · exact bad_good hg.place_le
theorem parsed_end {bash : Bool} {l : List UInt8} {q : Except (Int × Nat) T} (h : Parsed bash l q) : endOf l.length q ≤ l.length := by
  rcases h with ⟨-, rfl⟩ | ⟨-, n, h⟩
  · exact Nat.zero_le _
  · unfold top at h
    split at h
    · cases h; exact Nat.le_refl _
    · have hr := run_good bash l n (.chain 1) 0 (nxL bash l 0) (nx_good bash l 0 (Nat.zero_le _)).1
      revert h
      generalize run (nxL bash l) n (.chain 1) 0 (nxL bash l 0) = r at *
      intro h
      cases r with
      | none => cases h
      | some r =>
        cases r with
        | error e => cases h; exact (hr.1 _ rfl).1
        | ok y =>
          obtain ⟨x, st⟩ := y
          have hp := (hr.2 _ _ rfl).place_le
          dsimp only at h
          split at h
          · split at h
            · cases h; exact hp
            · cases h; exact Nat.le_refl _
          · cases h; exact hp
theorem parsed_err {bash : Bool} {l : List UInt8} {e : Int × Nat} (h : Parsed bash l (.error e)) : e.1 ≠ 0 := by
  rcases h with ⟨-, h⟩ | ⟨-, n, h⟩
  · cases h; decide
  · unfold top at h
    split at h
    · cases h
    · have hr := run_good bash l n (.chain 1) 0 (nxL bash l 0) (nx_good bash l 0 (Nat.zero_le _)).1
      revert h
      generalize run (nxL bash l) n (.chain 1) 0 (nxL bash l 0) = r at *
      intro h
      cases r with
      | none => cases h
      | some r =>
        cases r with
        | error e => cases h; exact (hr.1 _ rfl).2
        | ok y =>
          obtain ⟨x, st⟩ := y
          dsimp only at h
          split at h
          · split at h
            · cases h; show (42 : Int) ≠ 0; decide
            · cases h
          · cases h; show (33 : Int) ≠ 0; decide
end Go.Proofs.YtialepcdbpofkaaGreat
namespace Go.Proofs.YtialepcdbpofkaaGreat
open Go.RowKit
open Go.Lib (hid)
theorem four_one (t : T) (A : Option Addr) (n c : Nat) : #[c0 t, c1 t, c2 t, .slice A n c].all (·.oneCell') = true := Array.all_eq_true_iff_forall_mem.2 fun v hv => by
  simp only [Array.mem_def, List.mem_cons, List.not_mem_nil, or_false] at hv
  rcases hv with rfl | rfl | rfl | rfl <;> rfl
theorem parsed_res (s : ByteArray) (bash : Bool) (fr en : Nat) (hs : s.size ≤ 137438953472) (h1 : fr ≤ en) (h2 : en ≤ s.size) : ParsedOk s bash fr en ∨ ∃ e0 pl, e0.e ≠ 0 ∧ ParsedErr s bash fr en e0 pl := by
  obtain ⟨q, hq⟩ := parsed_total bash (s.extract fr en).data.toList
  have hz : (s.extract fr en).size ≤ 137438953472 := by rw [ByteArray.size_extract]; omega
  have cP := fun W => parse_any (s.extract fr en) bash W (by unfold maxLen; omega) q hq
  cases q with
  | ok t =>
    refine .inl fun B p d w hr => ?_
    refine rparsed_ok s bash p d fr en (s.extract fr en).size 0 (by omega) h1 h2 rfl (fun W => (cP W).mono fun e w' h => ?_) B w hr
    obtain ⟨hb, A, c, he, -⟩ := h
    exact ⟨hb, A, c, _, _, _, _, he, four_one _ _ _ _⟩
  | error y =>
    obtain ⟨e0, pl⟩ := y
    have he0 := parsed_err hq
    have hpl : pl ≤ (s.extract fr en).data.toList.length := parsed_end hq
    rw [len_toList] at hpl
    refine .inr ⟨⟨e0, true⟩, fr + pl, he0, fun B p d w hr => ?_⟩
    have h := rparsed_err s bash p d fr en pl e0 (by omega) h1 h2 he0 (by omega) (by omega) (fun W => (cP W).mono fun e w' h => by
      obtain ⟨hb, A, c, he, -⟩ := h
      exact ⟨hb, A, c, _, _, _, _, he, four_one _ _ _ _⟩) B w hr
    rw [show ((fr : Int) + (pl : Int)) = ((fr + pl : Nat) : Int) by omega] at h
    exact h
end Go.Proofs.YtialepcdbpofkaaGreat
namespace Go.Proofs.YtialepcdbpofkaaGreat
open Go.RowKit
open Go.Lib (hid)
theorem step_res (hPar : Par) (way : Nat) (hway : way ≤ 4) (s : ByteArray) (hs : s.size ≤ 137438953472) (bash : Bool) (d : Nat) (hd : d ≤ 24) (p : Nat) (hp : p < s.size) (ho : overB bash way s[p] (s.data.toList.drop p) = false) (b : Bg) (hwt : wtB b ≤ 2 * p)
    (IH : ∀ p', p < p' → p' ≤ s.size → ∀ way', way' ≤ 4 → ∀ d', d' ≤ 24 → ∀ b', wtB b' ≤ 2 * p' → RunRes way' s bash d' p' b') : StepRes way s bash d p b := by
  have hbl := wtB_len b
  have hps : ∀ bag, shB bag = b → bag.ps.length + 2 ≤ 549755813888 ∧ bag.tx.length + s.size + 2 ≤ 140737488355328 := fun bag hb => by
    have := shB_len hb
    have h2 := hbl.1; have h3 := hbl.2
    rw [← this.1] at h2
    rw [← this.2.1] at h3
    omega
  have hV : ∀ p', p < p' → p' ≤ s.size → ∀ wy : Int, (wy = 1 ∨ wy = 2 ∨ wy = 4) → Within s bash p' d wy := fun p' h1 h2 wy h3 => by
    have h := fun (w : Nat) (hw : w = 1 ∨ w = 2 ∨ w = 4) => within_res s hs bash p' d w hw hd h2 (fun h24 => IH p' h1 h2 w (by omega) (d + 1) (by omega) Bg.new (by rw [wtB_new]; omega))
    rcases h3 with rfl | rfl | rfl
    · exact h 1 (.inl rfl)
    · exact h 2 (.inr (.inl rfl))
    · exact h 4 (.inr (.inr rfl))
  by_cases h96 : s[p] = 96
  · exact .inr ⟨33, p, by decide, fun bag _ => part_back_err way s bash p d bag hp h96⟩
  by_cases h36 : s[p] = 36
  · exact dollar_res hPar way hway s hs bash d p hp h36 b hwt hV
  by_cases h92 : s[p] = 92
  · by_cases hp1 : p + 1 < s.size
    · by_cases h10 : s[p + 1] = 10
      · refine .inl ⟨p + 2, b, StepSh.of (fun bag => bag) (fun bag _ => part_escaped_ok way s bash p d (p + 2) bag bag hp h92 (esc_line way hway s bash p d bag (by omega) hp1 _ rfl h10)) (fun bag hb => hb), by omega, by omega, by omega⟩
      · by_cases hw : way ≤ 2
        · exact step_put (p + 2) [s[p + 1]] true (fun bag hb => part_escaped_ok way s bash p d (p + 2) bag _ hp h92 (esc_out way hway s bash p d bag (by omega) hp1 _ rfl hw h10 (by have := hps bag hb; omega) (by have := hps bag hb; omega))) (by omega) (by omega) (by show 1 + 1 ≤ _; omega)
        · cases hsp : specE s[p + 1]
          · exact step_put (p + 1) [92] true (fun bag hb => part_escaped_ok way s bash p d (p + 1) bag _ hp h92 (esc_lone way hway s bash p d bag (by omega) hp1 _ rfl (by omega) h10 hsp (by have := hps bag hb; omega) (by have := hps bag hb; omega))) (by omega) (by omega) (by show 1 + 1 ≤ _; omega)
          · exact step_put (p + 2) [s[p + 1]] true (fun bag hb => part_escaped_ok way s bash p d (p + 2) bag _ hp h92 (esc_in way hway s bash p d bag (by omega) hp1 _ rfl (by omega) h10 hsp (by have := hps bag hb; omega) (by have := hps bag hb; omega))) (by omega) (by omega) (by show 1 + 1 ≤ _; omega)
    · exact .inr ⟨8, s.size, by decide, fun bag _ => part_escaped_err way s bash p d bag 8 s.size hp h92 (esc_bad way s bash p d bag (by omega) (by omega))⟩
  by_cases h34 : s[p] = 34
  · by_cases hw : way ≤ 2
    · obtain ⟨n, r, hr, h1, h2⟩ := IH (p + 1) (by omega) (by omega) 3 (by omega) d hd Bg.new (by rw [wtB_new]; omega)
      have hst := runS_stop hr (by omega)
      rcases r with ⟨e0, q⟩ | ⟨q, bq⟩
      · exact .inr ⟨e0, q, h2 e0 q rfl, fun bag _ => part_double_bad way hw s bash p d n bag e0 q (by omega) hp h34 hr⟩
      · obtain ⟨h3, h4, h5⟩ := h1 q bq rfl
        rw [wtB_new] at h5
        have h6 := hst q bq rfl
        refine .inl ⟨q + 1, _, part_double_sh way hw s bash p d n q b bq (by omega) hp h34 hr (by omega) (by omega), by omega, by omega, ?_⟩
        have h7 := wtB_add (quotedL (closeB bq).ps) b
        have h8 := wt_quoted (closeB bq).ps
        have h9 := (wtB_close bq).1
        omega
    · by_cases hw3 : way = 3
      · subst hw3
        exfalso
        rw [h34] at ho
        revert ho
        show ((34 : UInt8) == 34) = false → False
        decide
      · obtain rfl : way = 4 := by omega
        exact .inr ⟨33, p, by decide, fun bag _ => part_both_err s bash p d bag hp h34⟩
  by_cases hw : way ≤ 2
  · by_cases h39 : s[p] = 39
    · by_cases hi : Lib.indexByte (s.data.toList.drop (p + 1)) 39 < 0
      · exact .inr ⟨8, s.size, by decide, fun bag _ => part_single_bad way hw s bash p d bag hp (by omega) h39 hi⟩
      · obtain ⟨k, hk⟩ := Int.eq_ofNat_of_zero_le (by omega : 0 ≤ Lib.indexByte (s.data.toList.drop (p + 1)) 39)
        have hlk := indexByte_lt (s.data.toList.drop (p + 1)) 39
        rw [hk, List.length_drop, len_toList] at hlk
        have hkl : p + 1 + k < s.size := by omega
        exact step_put (p + 1 + k + 1) ((s.data.toList.drop (p + 1)).take k) true (fun bag hb => part_single way hw s bash p d k bag hp (by omega) h39 (by have := hps bag hb; omega) (by have := hps bag hb; omega) hk) (by omega) (by omega) (by rw [List.length_take]; omega)
    · cases hop : opensB bash (s.data.toList.drop p)
      · exact step_put (p + 1) [s[p]] false (fun bag hb => part_plain way hw s bash p d bag hp (by omega) _ rfl (by have := hps bag hb; omega) (by have := hps bag hb; omega) h96 h92 h36 h39 h34 hop) (by omega) (by omega) (by show 1 + 1 ≤ _; omega)
      · obtain ⟨h60, hp2⟩ := opens_at hp hop
        obtain ⟨n, r, e, hcl, ⟨rfl, hr1, hr2⟩ | ⟨rfl, hr1⟩⟩ := cl_any s (by omega) s.size (p + 2) 0 (by omega) (by omega)
        · have htl : ((s.data.toList.drop (p + 2)).take (r - (p + 2))).length ≤ r - (p + 2) := by rw [List.length_take]; exact Nat.min_le_left _ _
          exact step_add (r + 1) (listPt 5 ((s.data.toList.drop (p + 2)).take (r - (p + 2))) false (p + 2)) rfl (fun bag hb => part_file_ok way hw n r s bash p d bag (by omega) hp2 hp h60 hop hcl hr1 hr2 (by have := hps bag hb; omega) (by have := hps bag hb; omega)) (by omega) (by omega) (by show ((s.data.toList.drop (p + 2)).take (r - (p + 2))).length + 1 ≤ _; omega)
        · exact .inr ⟨8, r, by decide, fun bag _ => part_file_err way hw n r s bash p d bag (by omega) hp2 hp h60 hop hcl⟩
  · exact step_put (p + 1) [s[p]] true (fun bag hb => part_in way (by omega) hway s bash p d bag hp (by omega) _ rfl (by have := hps bag hb; omega) (by have := hps bag hb; omega) h96 h92 h36 h34) (by omega) (by omega) (by show 1 + 1 ≤ _; omega)
theorem run_res (hPar : Par) (s : ByteArray) (hs : s.size ≤ 137438953472) (bash : Bool) : ∀ (m p : Nat), s.size - p ≤ m → p ≤ s.size → ∀ way, way ≤ 4 → ∀ d, d ≤ 24 → ∀ b, wtB b ≤ 2 * p → RunRes way s bash d p b := by
  intro m
  induction m using Nat.strongRecOn with
  | ind m ihm =>
  intro p hm hp way hway d hd b hwt
  by_cases hpe : p = s.size
  · subst hpe
    by_cases h0 : way = 0
    · exact ⟨0, _, .done b h0, fun q b' h => (by cases h; omega), fun e q h => by cases h⟩
    · exact ⟨0, _, .short b h0, fun q b' h => (by cases h), fun e q h => by cases h; decide⟩
  have hlt : p < s.size := by omega
  cases ho : overB bash way s[p] (s.data.toList.drop p)
  · have IH : ∀ p', p < p' → p' ≤ s.size → ∀ way', way' ≤ 4 → ∀ d', d' ≤ 24 → ∀ b', wtB b' ≤ 2 * p' → RunRes way' s bash d' p' b' := fun p' h1 h2 way' h3 d' h4 b' h5 => ihm (s.size - p') (by omega) p' (Nat.le_refl _) h2 way' h3 d' h4 b' h5
    rcases step_res hPar way hway s hs bash d hd p hlt ho b hwt IH with ⟨p1, b1, hst, h1, h2, h3⟩ | ⟨e, q, he, hst⟩
    · obtain ⟨n, r, hr, h4, h5⟩ := IH p1 h1 h2 way hway d hd b1 (by omega)
      refine ⟨n + 1, r, .step n p p1 b b1 r hlt ho hst hr, fun q b' h => ?_, h5⟩
      obtain ⟨h6, h7, h8⟩ := h4 q b' h
      exact ⟨by omega, h7, by omega⟩
    · exact ⟨0, _, .err p b e q hlt ho hst, fun q b' h => (by cases h), fun e' q' h => by cases h; exact he⟩
  · exact ⟨0, _, .stop p b hlt ho, fun q b' h => (by cases h; omega), fun e q h => by cases h⟩
theorem word_res (s : ByteArray) (hs : s.size ≤ 137438953472) (bash : Bool) : ∃ t : Except (Fe × Nat) (Nat × List Pt), (∀ q l, t = .ok (q, l) → q ≤ s.size ∧ wtP l ≤ 2 * s.size) ∧
    ∀ w, Calls Tryz.prog 10 #[.string s, .int .i64 0, .bool bash] w (WPostS s.size w (match t with | .ok (q, l) => .ok (q, fun x => x.map shP = l) | .error e => .error e)) := by
  obtain ⟨n, r, hr, h1, h2⟩ := run_res (fun s bash fr en hs h1 h2 => parsed_res s bash fr en hs h1 h2) s hs bash s.size 0 (by omega) (by omega) 0 (by omega) 0 (by omega) Bg.new (by rw [wtB_new]; omega)
  have hsm : smallE r := fun q b h => by
    obtain ⟨h3, h4, h5⟩ := h1 q b h
    have := (wtB_len b).1
    rw [wtB_new] at h5
    omega
  have hparts := fun (B : Nat) (W : World) (hl : LRd W B s bash 0 0) => parts_runS 0 (by omega) s (by omega) bash 0 n 0 r hr hsm B W hl
  rcases r with ⟨e0, q⟩ | ⟨q, b⟩
  · refine ⟨.error (e0, q), fun q l h => (by cases h), fun w => ?_⟩
    exact word_anyS s (by omega) bash _ hparts (fun e q h => by cases h; exact h2 _ _ rfl) (fun q P h => by cases h) w
  · refine ⟨.ok (q, (closeB b).ps), fun q' l h => ?_, fun w => ?_⟩
    · cases h
      obtain ⟨h3, h4, h5⟩ := h1 q b rfl
      have := (wtB_close b).1
      rw [wtB_new] at h5
      exact ⟨h4, by omega⟩
    · exact word_anyS s (by omega) bash _ hparts (fun e q h => by cases h) (fun q' P h => by cases h; exact (h1 q b rfl).2.1) w
end Go.Proofs.YtialepcdbpofkaaGreat
namespace Go.Proofs.YtialepcdbpofkaaGreat
open Go.RowKit
open Go.Lib (hid)
theorem textL_sh (l : List Pt) : textL (l.map shP) = textL l := by
  induction l with
  | nil => rfl
  | cons p r ih =>
    unfold textL at ih ⊢
    rw [List.map_cons, List.flatMap_cons, List.flatMap_cons, ih]
    rfl
theorem textL_wt (l : List Pt) : (textL l).length ≤ wtP l := by
  induction l with
  | nil => exact Nat.le_refl _
  | cons p r ih =>
    unfold textL at ih ⊢
    rw [List.flatMap_cons, List.length_append]
    simp only [wtP]
    split
    · omega
    · simp only [List.length_nil]; omega
theorem KF.setCells {F : Nat → Prop} {a : World} {b : Nat} (hb : F b ∨ a.heap.size ≤ b) : ∀ (vs : List Value) (o : Nat) {w : World}, KF F a w → KF F a (w.setCells b o vs)
  | [], _, _, h => h
  | v :: r, o, w, h => by
    rw [World.setCells]
    exact KF.setCells hb r (o + 1) (h.set hb o v)
theorem own_there10 {w : World} {N n c : Nat} {A : Option Addr} {xs : List Value} (h : w.ownsRow N 34 10 (.slice A n c) n xs) : ∀ g, (Value.slice A n c).ownBlock = some g → w.there g 0 (n * 10) := by
  intro g hg j hj
  rcases h.2 with ⟨hv, _⟩ | ⟨g', cap, cur, hv, _, hcur, hn, _, hs, _⟩
  · cases hv; simp [Value.ownBlock] at hg
  · cases hv
    obtain rfl : g' = g := by simpa [Value.ownBlock] using hg
    have hlt : 0 + j < cur.size := by rw [hs]; omega
    refine ⟨?_, Lib.frozen_of_heap hcur _⟩
    rw [Lib.cell_of_heap hcur, Array.getElem?_eq_getElem hlt]
    rfl
theorem word_one (s : ByteArray) (hs : s.size ≤ 137438953472) (bash : Bool) : ∃ (Q : Nat) (E : Int) (L : List Pt), wtP L ≤ 2 * s.size ∧
    ∀ w, Calls Tryz.prog 10 #[.string s, .int .i64 0, .bool bash] w fun e w' => Below w.heap.size w w' ∧ ∃ A c l, l.map shP = L ∧ e = .returned (.tuple #[.agg #[.slice A L.length c], .int .i64 Q, .int .i64 E]) ∧ w'.ownsRow w.heap.size 34 10 (.slice A L.length c) L.length (rowPt l) := by
  obtain ⟨t, h1, h2⟩ := word_res s hs bash
  by_cases h6 : s.size ≤ 65536
  · rcases t with ⟨e0, q⟩ | ⟨q, L⟩
    · refine ⟨q, e0.e, [], Nat.zero_le _, fun w => (h2 w).mono fun e w' h => ?_⟩
      obtain ⟨h3, h4⟩ := h
      rw [if_pos (.inl h6)] at h4
      exact ⟨h3, none, 0, [], rfl, h4, World.ownsRow_nil _ _ _ _⟩
    · refine ⟨q, 0, L, (h1 q L rfl).2, fun w => (h2 w).mono fun e w' h => ?_⟩
      obtain ⟨h3, h4⟩ := h
      rw [if_pos h6] at h4
      obtain ⟨A, c, l, hl, he, ho⟩ := h4
      have hll : l.length = L.length := by rw [← hl, List.length_map]
      rw [hll] at he ho
      exact ⟨h3, A, c, l, hl, he, ho⟩
  · rcases t with ⟨e0, q⟩ | ⟨q, L⟩
    · by_cases he : earlyB e0 = true
      · refine ⟨q, e0.e, [], Nat.zero_le _, fun w => (h2 w).mono fun e w' h => ?_⟩
        obtain ⟨h3, h4⟩ := h
        rw [if_pos (.inr he)] at h4
        exact ⟨h3, none, 0, [], rfl, h4, World.ownsRow_nil _ _ _ _⟩
      · refine ⟨0, 5, [], Nat.zero_le _, fun w => (h2 w).mono fun e w' h => ?_⟩
        obtain ⟨h3, h4⟩ := h
        rw [if_neg (by rintro (h | h); exact h6 h; exact he h)] at h4
        exact ⟨h3, none, 0, [], rfl, h4, World.ownsRow_nil _ _ _ _⟩
    · refine ⟨0, 5, [], Nat.zero_le _, fun w => (h2 w).mono fun e w' h => ?_⟩
      obtain ⟨h3, h4⟩ := h
      rw [if_neg h6] at h4
      exact ⟨h3, none, 0, [], rfl, h4, World.ownsRow_nil _ _ _ _⟩
def pt77 : Pt := ⟨77, [], [], [], false, .no, .no, .no, .no, 0⟩
set_option maxRecDepth 100000 in
set_option maxHeartbeats 4000000 in
theorem own_walk (s : ByteArray) (bash : Bool) (w : World) (hs : s.size ≤ 137438953472) :
    Calls Tryz.prog 8 #[.string s, .bool bash] w fun e w' => e = .returned (.bool true) ∧ Below w.heap.size w w' := by
  obtain ⟨Q, E, L, hL, cW⟩ := word_one s hs bash
  have hlen : L.length ≤ 274877906944 := by have := wtP_len L; omega
  have cT : ∀ (A : Option Addr) (c : Nat) (l : List Pt) (W : World), l.map shP = L → SrcP W A l → Calls Tryz.prog 13 #[.agg #[.slice A L.length c]] W fun e w' => e = .returned (encS (textL L)) ∧ Below W.heap.size W w' := fun A c l W hl hsrc => by
    have h1 := wtP_sh l
    rw [hl] at h1
    have h2 := textL_wt l
    have h3 : l.length = L.length := by rw [← hl, List.length_map]
    have h4 : textL l = textL L := by rw [← hl, textL_sh]
    have := text_any A c l W hsrc (by omega) (by omega)
    rw [h3, h4] at this
    exact this
  obtain ⟨m, hm⟩ : ∃ m, L.length = m := ⟨_, rfl⟩
  obtain ⟨X, hX⟩ : ∃ X, textL L = X := ⟨_, rfl⟩
  simp only [hm, hX] at cW cT hlen
  have hmi : (m : Int) ≤ 274877906944 := by omega
  have HLM := hid (fun (l : List Pt) (hl : l.map shP = L) => (show l.length = m by rw [← hm, ← hl, List.length_map]))
  have HT := hid cT
  clear cT hX hL hm hlen hs
  go_enter Tryz.func8, Tryz.ntmps8
  go_wp2_with fail
  refine (alive_any _).mono ?_
  rintro e w1 ⟨rfl, hb1⟩
  go_wp2_with fail
  refine (cW _).mono ?_
  rintro e w2 ⟨hb2, A1, c1, l1, hl1, rfl, ho1⟩
  go_wp2_with fail
  refine (cW _).mono ?_
  rintro e w4 ⟨hb4, A2, c2, l2, hl2, rfl, ho2⟩
  -- the facts of the world behind both
  obtain ⟨W3, hW3⟩ : ∃ W3, w2.alloc (.cells #[.slice A1 m c1] 25) = W3 := ⟨_, rfl⟩
  rw [hW3] at hb4 ho2
  obtain ⟨W5, hW5⟩ : ∃ W5, w4.alloc (.cells #[.slice A2 m c2] 25) = W5 := ⟨_, rfl⟩
  have hbW3 : Below w2.heap.size w2 W3 := by rw [← hW3]; exact (Below.refl _ _).alloc (Nat.le_refl _) _
  have hbW5 : Below w4.heap.size w4 W5 := by rw [← hW5]; exact (Below.refl _ _).alloc (Nat.le_refl _) _
  have hsz3 : W3.heap.size = w2.heap.size + 1 := by rw [← hW3]; simp
  have hbox1 : W3.heap[w2.heap.size]? = some (.cells #[.slice A1 m c1] 25 (0, 0)) := by rw [← hW3]; exact heap_alloc_new _ _
  have hbox2 : W5.heap[w4.heap.size]? = some (.cells #[.slice A2 m c2] 25 (0, 0)) := by rw [← hW5]; exact heap_alloc_new _ _
  have hs1 := hb1.size; have hs2 := hb2.size; have hs4 := hb4.size; have hs5 := hbW5.size
  have hown1 : W5.ownsRow w1.heap.size 34 10 (.slice A1 m c1) m (rowPt l1) := own_below (own_below (own_below ho1 hbW3) hb4) hbW5
  have hb15 : W5.heap[w2.heap.size]? = some (.cells #[.slice A1 m c1] 25 (0, 0)) := heap_below' (heap_below' hbox1 hb4) hbW5
  have hlt1 : ∀ g, (Value.slice A1 m c1).ownBlock = some g → w1.heap.size ≤ g ∧ g < w2.heap.size := fun g hg => ho1.lt g hg
  have hlt2 : ∀ g, (Value.slice A2 m c2).ownBlock = some g → W3.heap.size ≤ g := fun g hg => (ho2.lt g hg).1
  have hsrc2 : SrcP W5 A2 l2 := (own_src ho2 (HLM.out l2 hl2).symm).below hbW5
  have hA2 : ∀ g o, A2 = some ⟨g, o, none⟩ → (Value.slice A2 m c2).ownBlock = some g := fun g o e => by
    rcases ho2.2 with ⟨hv, h0⟩ | ⟨g', cap, cur, hv, _⟩
    · cases hv; cases e
    · cases hv; cases e; rfl
  have hbb5 : Below w.heap.size w W5 := hb1.trans ((hb2.mono hs1).trans ((hbW3.mono (by omega)).trans ((hb4.mono (by omega)).trans (hbW5.mono (by omega)))))
  have hth1 := own_there10 hown1
  have x0 : W5.cell? ⟨w4.heap.size, 0, none⟩ = some (.slice A2 m c2) := by rw [Lib.cell_of_heap hbox2]; rfl
  have HF := hid (And.intro hb15 (And.intro hbox2 (And.intro hlt1 (And.intro hlt2 (And.intro hsrc2 (And.intro hA2 (And.intro hbb5 (And.intro hth1 (And.intro hl2 (And.intro hown1 (show w1.heap.size < w4.heap.size + 1 ∧ w2.heap.size < w4.heap.size ∧ w.heap.size ≤ w1.heap.size ∧ w1.heap.size ≤ w2.heap.size by omega)))))))))))
  have hc1 := HT.out A2 c2 l2 W5 hl2 hsrc2
  clear hb15 hbox2 hlt1 hlt2 hsrc2 hA2 hbb5 hth1 hown1 hbW3 hbW5 hbox1 hs1 hs2 hs4 hs5 hb1 hb2 hb4 ho1 ho2 hl1 hl2
  go_wp2_with (go_at_call 13; (with_reducible refine hc1.mono ?_); rintro e w6 ⟨rfl, hb6⟩)
  have H6 := hid hb6
  clear hc1 hb6 x0
  go_loopw [12] (fun vi wr => ∃ k : Nat, k ≤ m ∧ vi = .int .i64 k ∧ KF (fun b => (Value.slice A1 m c1).ownBlock = some b) w6 wr ∧ ∀ g, (Value.slice A1 m c1).ownBlock = some g → wr.there g 0 (m * 10)) (fun vi _ => m - (intOf vi).toNat)
  case atStart =>
    obtain ⟨-, -, -, -, -, -, -, hth1, -, -, -⟩ := HF.out
    refine ⟨0, Nat.zero_le _, rfl, KF.refl _ _, fun g hg j hj => ?_⟩
    obtain ⟨h1, h2⟩ := hth1 g hg j hj
    obtain ⟨u, hu⟩ := Option.isSome_iff_exists.1 h1
    have hbk := H6.out.block g (World.block_lt_of_cell? W5 _ hu)
    exact ⟨by rw [World.cell?, hbk]; exact h1, by rw [World.frozen?, hbk]; exact h2⟩
  case round =>
    obtain ⟨k, hk, rfl, hkf, hth⟩ := hrel
    obtain ⟨hb15, hbox2, hlt1, hlt2, hsrc2, hA2, hbb5, -, hl2, hown1, hz1, hz2, hz3, hz4⟩ := HF.out
    have hnF1 : ¬ (Value.slice A1 m c1).ownBlock = some w2.heap.size := fun h => by have := (hlt1 _ h).2; omega
    have hnF2 : ¬ (Value.slice A1 m c1).ownBlock = some w4.heap.size := fun h => by have := (hlt1 _ h).2; omega
    have hx1 : wr.heap[w2.heap.size]? = some (.cells #[.slice A1 m c1] 25 (0, 0)) := (hkf.block _ (lt_of_block (heap_below' hb15 H6.out)) hnF1).trans (heap_below' hb15 H6.out)
    have hx2 : wr.heap[w4.heap.size]? = some (.cells #[.slice A2 m c2] 25 (0, 0)) := (hkf.block _ (lt_of_block (heap_below' hbox2 H6.out)) hnF2).trans (heap_below' hbox2 H6.out)
    have x1 : wr.cell? ⟨w2.heap.size, 0, none⟩ = some (.slice A1 m c1) := by rw [Lib.cell_of_heap hx1]; rfl
    have x2 : wr.cell? ⟨w4.heap.size, 0, none⟩ = some (.slice A2 m c2) := by rw [Lib.cell_of_heap hx2]; rfl
    have hk0 : (0 : Int) ≤ (k : Int) := by omega
    by_cases hlt : k < m
    · have hki : (k : Int) < (m : Int) := by omega
      rcases hown1.2 with ⟨hv, h0⟩ | ⟨g1, cap, cur, hv, _⟩
      · cases hv; omega
      · cases hv
        have ht : wr.there g1 (k * 10) (cellsPt pt77).toArray.size := fun j hj => by
          have hj2 : j < 10 := hj
          have := hth g1 rfl (k * 10 + j) (by omega)
          rw [Nat.zero_add] at this
          exact this
        have hR := (And.intro (KF.setCells (F := fun b => (Value.slice (some ⟨g1, 0, none⟩) m c1).ownBlock = some b) (b := g1) (.inl rfl) (cellsPt pt77).toArray.toList (k * 10) hkf) (fun g hg => World.there_setCells (hth g hg) g1 (k * 10) (cellsPt pt77).toArray.toList))
        obtain ⟨WS, hWS⟩ : ∃ WS, wr.setCells g1 (k * 10) (cellsPt pt77).toArray.toList = WS := ⟨_, rfl⟩
        rw [hWS] at hR
        have HR := hid hR
        clear hb15 hbox2 hlt1 hlt2 hsrc2 hA2 hbb5 hl2 hown1 hkf hth hx1 hx2 x2 hnF1 hnF2 hR
        go_wp2_with (refine wpList_store_mid rfl 34 _ _ rfl g1 (k * 10) (cellsPt pt77).toArray rfl rfl ht part_sz (cellsPt_all _) ?_; rw [hWS])
        go_roundw
        case rel => exact ⟨k + 1, by omega, by go_num, HR.out.1, HR.out.2⟩
        case measure => simp [intOf]; omega
    · have hkm : k = m := by omega
      subst hkm
      have hki : ¬ (k : Int) < (k : Int) := by omega
      have hsrcr : SrcP wr A2 l2 := (hsrc2.below H6.out).kept hkf (fun g o e h => by have h1 := hlt2 g (hA2 g o e); have h2 := (hlt1 g h).2; omega)
      have hc2 := HT.out A2 c2 l2 wr hl2 hsrcr
      have hbb : Below w.heap.size w wr := (hbb5.trans (H6.out.mono hbb5.size)).trans (hkf.below (fun b hb => by have := (hlt1 b hb).1; omega) (by have h1 := H6.out.size; have h2 := hbb5.size; omega))
      have hXX : (X == X) = true := by simp
      have HB := hid (And.intro hbb (And.intro hx1 hx2))
      clear hb15 hbox2 hlt1 hlt2 hsrc2 hA2 hbb5 hl2 hown1 hkf hth hx1 hx2 hnF1 hnF2 hsrcr hbb
      go_wp2_with (go_at_call 13; (with_reducible refine hc2.mono ?_); rintro e w8 ⟨rfl, hb8⟩; have y1 : w8.cell? ⟨w2.heap.size, 0, none⟩ = some (.slice A1 k c1) := (by rw [Lib.cell_of_heap (heap_below' HB.out.2.1 hb8)]; rfl); have y2 : w8.cell? ⟨w4.heap.size, 0, none⟩ = some (.slice A2 k c2) := (by rw [Lib.cell_of_heap (heap_below' HB.out.2.2 hb8)]; rfl); have H8 := hid hb8; clear hb8)
      go_ret
      exact ⟨rfl, HB.out.1.trans (H8.out.mono HB.out.1.size)⟩
end Go.Proofs.YtialepcdbpofkaaGreat

namespace Go.Proofs.YtialepcdbpofkaaGreat
open Go.ChangeShapes Go.WideShapes Go.ChangeAt Go.RowKit
theorem own : ownKnob Tryz.prog.godebug = none := by kernel_rfl
theorem laidOut : laidOutB Tryz.prog = true := by kernel_rfl
theorem below_trodAll {P : Program} (hl : laidOutB P = true) {H : Type} {enc : TypeId × Value → H} {W W' : World} (hB : Below W.heap.size W W') : ∀ (ts : List TypeId) (vs : List Value) (ds : List (DataW H)) (ps : List MemPlace),
    (∀ t ∈ ts, P.readableRec t = true ∧ t < P.types.size) → DataW.TrodAll enc P W 0 (fun _ => true) true ts vs ds ps → (∀ x ∈ ps, x.block < W.heap.size) →
    DataW.TrodAll enc P W' 0 (fun b => decide (b < W.heap.size)) true ts vs ds ps := by
  intro ts
  induction ts with
  | nil =>
    intro vs ds ps _ h _
    cases vs <;> cases ds <;> exact h
  | cons t ts ih =>
    intro vs ds ps hr h hlt
    cases vs with
    | nil => exact h.elim
    | cons v vs =>
      cases ds with
      | nil => exact h.elim
      | cons d ds =>
        obtain ⟨p, q, h1, h2, e⟩ := h
        have hr0 := hr t (List.mem_cons.2 (Or.inl rfl))
        exact ⟨p, q, Below.trod hl hr0.1 hr0.2 h1 hB (fun x hx => hlt x (by rw [e]; exact List.mem_append_left _ hx)), ih vs ds q (fun t ht => hr t (List.mem_cons.2 (Or.inr ht))) h2 (fun x hx => hlt x (by rw [e]; exact List.mem_append_right _ hx)), e⟩
theorem rows_ok {P : Program} {ts : List TypeId} (h : (ts.all fun t => P.readableRec t && decide (t < P.types.size)) = true) : ∀ t ∈ ts, P.readableRec t = true ∧ t < P.types.size := fun t ht => by
  have := List.all_eq_true.1 h t ht
  simpa using this
end Go.Proofs.YtialepcdbpofkaaGreat

namespace Go.Proofs.YtialepcdbpofkaaGreat
open Go.ChangeShapes Go.WideShapes Go.ChangeAt Go.RowKit
theorem bulkF_mem {H : Type} : ∀ (ds : List (DataW H)) (d : DataW H), d ∈ ds → Rows.uptoBulk d ≤ Rows.uptoBulkAll ds
  | a :: r, d, h => by
    simp only [Rows.uptoBulkAll]
    rcases List.mem_cons.1 h with rfl | h
    · omega
    · have := bulkF_mem r d h
      omega
end Go.Proofs.YtialepcdbpofkaaGreat

namespace Go.Proofs.YtialepcdbpofkaaGreat
open Go.ChangeShapes Go.WideShapes Go.ChangeAt Go.RowKit
theorem bulk_le {H : Type} {ds : List (DataW H)} {d : DataW H} (hd : d ∈ ds) (hk : Rows.uptoSmall H ds = true) : Rows.uptoBulk d ≤ 1048576 :=
  Nat.le_trans (bulkF_mem _ _ hd) (of_decide_eq_true hk)
theorem text_le {H : Type} {ds : List (DataW H)} {s : ByteArray} (hd : (DataW.lit (H := H) (.string s.data.toList)) ∈ ds) (hk : Rows.uptoSmall H ds = true) : s.data.toList.length ≤ 1048576 := by
  have h := bulk_le hd hk
  simp only [Rows.uptoBulk] at h
  omega
end Go.Proofs.YtialepcdbpofkaaGreat
namespace Go.Proofs.YtialepcdbpofkaaGreat
open Go.RowKit
theorem own_upto {H : Type} (s : ByteArray) (bash : Bool) (w : World) (_ : s.size ≤ 140737488351232) (hk : Rows.uptoSmall H [.lit (.string s.data.toList), .lit (.bool bash)] = true) :
    Calls Tryz.prog 8 #[.string s, .bool bash] w fun e w' => e = .returned (.bool true) ∧ Below w.heap.size w w' :=
  own_walk s bash w (by have := text_le (s := s) (by simp) hk; rw [len_toList] at this; omega)
end Go.Proofs.YtialepcdbpofkaaGreat
