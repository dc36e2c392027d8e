/- Every reader function's contract, for every fuel; the contract of arith's all. No conditions but sizes. -/
import Derived.Test.YtafmcogbbmncoaaArY
import Derived.Test.YtafmcogbbmncoaaArZ
import Derived.Test.YtafmcogbbmncoaaArCh
import Derived.Test.YtafmcogbbmncoaaArOp
import Derived.Test.YtafmcogbbmncoaaArCo
import Derived.Test.YtafmcogbbmncoaaArDp
namespace Go.Proofs.Ytafmcogbbmncoaa
open Go.RowKit
open Go.Lib (hid)

theorem ih_all (s : ByteArray) (bash : Bool) (hs : s.size ≤ 16384) : ∀ n, IH s bash n := by
  intro n
  induction n using Nat.strongRecOn with
  | _ n ih =>
    cases n with
    | zero =>
      exact ⟨fun l _ B d st w q _ _ _ h => by simp [run] at h, fun l _ B d st w q _ _ _ h => by simp [run] at h, fun B d st w q _ _ _ h => by simp [run] at h, fun B d st w q _ _ _ h => by simp [run] at h,
        fun B d st w q _ _ _ h => by simp [run] at h, fun B d st w q _ _ _ h => by simp [run] at h, fun x B d st w q old Bx N1 A c _ _ _ h => by simp [run] at h⟩
    | succ n =>
      have ih' : ∀ m, m ≤ n → IH s bash m := fun m hm => ih m (by omega)
      have ih0 := ih' n (Nat.le_refl _)
      exact ⟨chain_step s bash hs n ih', above_step s bash n ih0, asg_step s bash hs n ih', cho_step s bash hs n ih', pow_step s bash hs n ih', opd_step s bash hs n ih', tail_step s bash hs n ih0⟩

def AllPost (B : Nat) (w : World) : Except (Int × Nat) T → Ending → World → Prop
  | .ok x, e, w' => Kept B w w' ∧ ∃ A c, e = .returned (.agg #[c0 x, c1 x, c2 x, .slice A (lenT x) c]) ∧ Tree w' (fun g => w.heap.size ≤ g) A c x
  | .error (e0, p), e, w' => Kept B w w' ∧ e = .panicked [faultV e0 p]

set_option maxHeartbeats 2000000 in
theorem all_any (B : Nat) (s : ByteArray) (bash : Bool) (w : World) (h : Rd w B s bash ⟨0, 0, 0, [], 0⟩ 0) (hs : s.size ≤ 16384) (n : Nat) (q : Except (Int × Nat) T) (hq : top (nxL bash s.data.toList) n = some q) :
    Calls Try.prog 22 #[.pointer (some ⟨B, 0, none⟩)] w (AllPost B w q) := by
  have hB := h.lt
  have hA := h.alloc (.cells #[.string ⟨#[]⟩, .string ⟨#[]⟩, .int .i64 0, .slice none 0 0] 24)
  have hK := (Kept.refl B w).alloc (.cells #[.string ⟨#[]⟩, .string ⟨#[]⟩, .int .i64 0, .slice none 0 0] 24)
  have hV := Var4z.new w
  have hsz : w.heap.size < (w.alloc (.cells #[.string ⟨#[]⟩, .string ⟨#[]⟩, .int .i64 0, .slice none 0 0] 24)).heap.size := hV.lt
  have hNB : w.heap.size ≠ B := by omega
  have cN := next_any B s bash _ 0 _ hA hs (Nat.zero_le _)
  have hgN := (nx_good bash s.data.toList 0 (Nat.zero_le _)).1
  rw [len_toList] at hgN
  unfold top at hq
  have cC := (ih_all s bash hs n).chain 1 (.inl rfl) B 0 (nxL bash s.data.toList 0)
  rw [show ((1 : Nat) : Int) = 1 from rfl] at cC
  generalize nxL bash s.data.toList 0 = sN at *
  go_enter Try.func22, Try.ntmps22
  generalize hw0 : w.alloc (.cells #[.string ⟨#[]⟩, .string ⟨#[]⟩, .int .i64 0, .slice none 0 0] 24) = w0 at *
  go_wp2_with fail
  refine cN.mono ?_
  rintro e w1 ⟨rfl, hr1, hk1⟩
  have hv1 := hV.kept hk1 hNB
  have hk1 := hK.trans hk1
  have k3 := hr1.c3
  clear cN hA hK hV hw0 h
  by_cases he : sN.kind = 1
  · rw [if_pos he] at hq
    obtain rfl : q = .ok (.leaf [] 0) := by cases hq; rfl
    have g1 : ((sN.kind : Int) == 1) = true := by simp; omega
    have v0 := hv1.a0; have v1 := hv1.a1; have v2 := hv1.a2; have v3 := hv1.a3; have f0 := hv1.free 0; have f1 := hv1.free 1; have f2 := hv1.free 2; have f3 := hv1.free 3
    clear hq he
    go_wp2_with fail
    refine ret_sum rfl rfl (hv1.set _ _ _ _) rfl ⟨hk1.set4 (Nat.le_refl _) _ _ _ _, none, 0, rfl, rfl, rfl⟩
  · rw [if_neg he] at hq
    have g1 : ((sN.kind : Int) == 1) = false := by simp; omega
    clear he
    cases hrun : run (nxL bash s.data.toList) n (.chain 1) 0 sN with
    | none => rw [hrun] at hq; cases hq
    | some r =>
      rw [hrun] at hq
      have cC := cC w1 r (by omega) hr1 hgN hrun
      cases r with
      | error y =>
        obtain ⟨e0, p⟩ := y
        obtain rfl : q = .error (e0, p) := by cases hq; rfl
        clear hq hrun
        go_wp2_with fail
        refine cC.mono ?_
        rintro e w2 ⟨hk2, rfl⟩
        go_wp2_with fail
        exact ⟨rfl, hk1.trans hk2, rfl⟩
      | ok y =>
        obtain ⟨x, st⟩ := y
        clear hrun
        go_wp2_with fail
        refine cC.mono ?_
        rintro e w2 ⟨hk2, ⟨A, c, rfl, hT⟩, hr2, hg2⟩
        have hX : Var4 (w2.alloc (.cells #[c0 x, c1 x, c2 x, .slice A (lenT x) c] 24)) w2.heap.size (c0 x) (c1 x) (c2 x) (.slice A (lenT x) c) := heap_alloc_new _ _
        have hal : Below w2.heap.size w2 (w2.alloc (.cells #[c0 x, c1 x, c2 x, .slice A (lenT x) c] 24)) := (Below.refl _ _).alloc (Nat.le_refl _) _
        have hlt1 := hv1.lt
        have hr3 := hr2.below hal
        have hv3 := (hv1.kept hk2 hNB).below hal
        have hT3 := hT.below hal
        have hk3 := (hk1.trans hk2).trans (.of_below hal)
        generalize hw3 : w2.alloc (.cells #[c0 x, c1 x, c2 x, .slice A (lenT x) c] 24) = w3 at *
        have x0 := hX.a0; have x1 := hX.a1; have x2 := hX.a2; have x3 := hX.a3
        have k3 := hr3.c3
        clear cC hr2 hT hal
        by_cases he : st.kind = 1
        · have g2 : ((st.kind : Int) != 1) = false := by simp; omega
          have hq : (if 60 < hgt x then some (.error (42, st.place)) else some (.ok x)) = some q := by
            have : st.kind = 1 := he
            simp only [this, if_true] at hq
            exact hq
          have cD := Deep_any x A c _ w3 hT3
          have hh : decide ((60 : Int) < ((min 1000 (hgt x) : Nat) : Int)) = decide (60 < hgt x) := by
            rw [Bool.eq_iff_iff]; simp; omega
          obtain ⟨hm, hhm⟩ : ∃ hm : Nat, min 1000 (hgt x) = hm := ⟨_, rfl⟩
          rw [hhm] at cD hh
          by_cases h60 : 60 < hgt x
          · rw [if_pos h60] at hq
            obtain rfl : q = .error (42, st.place) := by cases hq; rfl
            rw [decide_eq_true h60] at hh
            have hh2 : (60 : Int) < (hm : Int) := by simpa using hh
            clear hhm h60 hq hh he
            go_wp2_with fail
            refine cD.mono ?_
            rintro e w4 ⟨rfl, hb4⟩
            have cW := wrong_any B 42 s bash st 0 _ (hr3.below hb4)
            go_wp2_with fail
            refine cW.mono ?_
            rintro e w5 ⟨rfl, hb5⟩
            go_wp2_with fail
            exact ⟨rfl, (hk3.trans (.of_below hb4)).trans (.of_below hb5), rfl⟩
          · rw [if_neg h60] at hq
            obtain rfl : q = .ok x := by cases hq; rfl
            rw [decide_eq_false h60] at hh
            clear hhm h60 hq he
            go_wp2_with fail
            refine cD.mono ?_
            rintro e w4 ⟨rfl, hb4⟩
            have hX4 := hX.below hb4
            have hv4 := hv3.below hb4
            have hT4 := hT3.below hb4
            have x0 := hX4.a0; have x1 := hX4.a1; have x2 := hX4.a2; have x3 := hX4.a3
            have v0 := hv4.a0; have v1 := hv4.a1; have v2 := hv4.a2; have v3 := hv4.a3; have f0 := hv4.free 0; have f1 := hv4.free 1; have f2 := hv4.free 2; have f3 := hv4.free 3
            go_wp2_with fail
            exact ret_sum rfl rfl (hv4.set _ _ _ _) rfl ⟨(hk3.trans (.of_below hb4)).set4 (Nat.le_refl _) _ _ _ _, A, c, rfl, (hT4.set4 (fun g hg e => by omega) _ _ _ _).weaken (fun g _ hg => by omega)⟩
        · have g2 : ((st.kind : Int) != 1) = true := by simp; omega
          obtain rfl : q = .error (33, st.place) := by
            have : ¬ st.kind = 1 := he
            simp only [this, if_false] at hq
            cases hq; rfl
          have cW := wrong_any B 33 s bash st 0 _ hr3
          clear hq he
          go_wp2_with fail
          refine cW.mono ?_
          rintro e w4 ⟨rfl, hb4⟩
          go_wp2_with fail
          exact ⟨rfl, hk3.trans (.of_below hb4), rfl⟩
end Go.Proofs.Ytafmcogbbmncoaa
