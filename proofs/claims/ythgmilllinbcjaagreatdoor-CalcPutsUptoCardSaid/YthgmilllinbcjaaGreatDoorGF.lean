/- Every reader function's contract, for every fuel; the contract of arith's all. No conditions but sizes. Contract of arith.Parse's deferred closure. No conditions. Contract of arith.Parse: it tells what the grammar says; of what was in memory nothing has turned. No conditions but the size of a string. -/
import Derived.Test.YthgmilllinbcjaaGreatDoorZArY
import Derived.Test.YthgmilllinbcjaaGreatDoorZArZ
import Derived.Test.YthgmilllinbcjaaGreatDoorZArCh
import Derived.Test.YthgmilllinbcjaaGreatDoorZArOp
import Derived.Test.YthgmilllinbcjaaGreatDoorZArCo
import Derived.Test.YthgmilllinbcjaaGreatDoorGD
import Derived.Defers
import Derived.Recover
import Derived.RegionTactic
import Derived.BigRegion
import Derived.Test.YthgmilllinbcjaaGreatDoorGC
import Derived.Laws.EntriesVeiled
namespace Go.Proofs.YthgmilllinbcjaaGreatDoor
open Go.RowKit
open Go.Lib (hid)

theorem ih_all (s : ByteArray) (bash : Bool) (hs : s.size ≤ 16384) : ∀ n, IH s bash n := by
  intro n
  induction n using Nat.strongRecOn with
  | _ n ih =>
    cases n with
    | zero =>
      exact ⟨fun l _ B d st w q _ _ _ h => by simp [run] at h, fun l _ B d st w q _ _ _ h => by simp [run] at h, fun B d st w q _ _ _ h => by simp [run] at h, fun B d st w q _ _ _ h => by simp [run] at h,
        fun B d st w q _ _ _ h => by simp [run] at h, fun B d st w q _ _ _ h => by simp [run] at h, fun x B d st w q old Bx N1 A c _ _ _ h => by simp [run] at h⟩
    | succ n =>
      have ih' : ∀ m, m ≤ n → IH s bash m := fun m hm => ih m (by omega)
      have ih0 := ih' n (Nat.le_refl _)
      exact ⟨chain_step s bash hs n ih', above_step s bash n ih0, asg_step s bash hs n ih', cho_step s bash hs n ih', pow_step s bash hs n ih', opd_step s bash hs n ih', tail_step s bash hs n ih0⟩

def AllPost (B : Nat) (w : World) : Except (Int × Nat) T → Ending → World → Prop
  | .ok x, e, w' => Kept B w w' ∧ ∃ A c, e = .returned (.agg #[c0 x, c1 x, c2 x, .slice A (lenT x) c]) ∧ Tree w' (fun g => w.heap.size ≤ g) A c x
  | .error (e0, p), e, w' => Kept B w w' ∧ e = .panicked [faultV e0 p]

set_option maxHeartbeats 2000000 in
theorem all_any (B : Nat) (s : ByteArray) (bash : Bool) (w : World) (h : Rd w B s bash ⟨0, 0, 0, [], 0⟩ 0) (hs : s.size ≤ 16384) (n : Nat) (q : Except (Int × Nat) T) (hq : top (nxL bash s.data.toList) n = some q) :
    Calls Tryz.prog 59 #[.pointer (some ⟨B, 0, none⟩)] w (AllPost B w q) := by
  have hB := h.lt
  have hA := h.alloc (.cells #[.string ⟨#[]⟩, .string ⟨#[]⟩, .int .i64 0, .slice none 0 0] 24)
  have hK := (Kept.refl B w).alloc (.cells #[.string ⟨#[]⟩, .string ⟨#[]⟩, .int .i64 0, .slice none 0 0] 24)
  have hV := Var4z.new w
  have hsz : w.heap.size < (w.alloc (.cells #[.string ⟨#[]⟩, .string ⟨#[]⟩, .int .i64 0, .slice none 0 0] 24)).heap.size := hV.lt
  have hNB : w.heap.size ≠ B := by omega
  have cN := next_any B s bash _ 0 _ hA hs (Nat.zero_le _)
  have hgN := (nx_good bash s.data.toList 0 (Nat.zero_le _)).1
  rw [len_toList] at hgN
  unfold top at hq
  have cC := (ih_all s bash hs n).chain 1 (.inl rfl) B 0 (nxL bash s.data.toList 0)
  rw [show ((1 : Nat) : Int) = 1 from rfl] at cC
  generalize nxL bash s.data.toList 0 = sN at *
  go_enter Tryz.func59, Tryz.ntmps59
  generalize hw0 : w.alloc (.cells #[.string ⟨#[]⟩, .string ⟨#[]⟩, .int .i64 0, .slice none 0 0] 24) = w0 at *
  go_wp2_with fail
  refine cN.mono ?_
  rintro e w1 ⟨rfl, hr1, hk1⟩
  have hv1 := hV.kept hk1 hNB
  have hk1 := hK.trans hk1
  have k3 := hr1.c3
  clear cN hA hK hV hw0 h
  by_cases he : sN.kind = 1
  · rw [if_pos he] at hq
    obtain rfl : q = .ok (.leaf [] 0) := by cases hq; rfl
    have g1 : ((sN.kind : Int) == 1) = true := by simp; omega
    have v0 := hv1.a0; have v1 := hv1.a1; have v2 := hv1.a2; have v3 := hv1.a3; have f0 := hv1.free 0; have f1 := hv1.free 1; have f2 := hv1.free 2; have f3 := hv1.free 3
    clear hq he
    go_wp2_with fail
    refine ret_sum rfl rfl (hv1.set _ _ _ _) rfl ⟨hk1.set4 (Nat.le_refl _) _ _ _ _, none, 0, rfl, rfl, rfl⟩
  · rw [if_neg he] at hq
    have g1 : ((sN.kind : Int) == 1) = false := by simp; omega
    clear he
    cases hrun : run (nxL bash s.data.toList) n (.chain 1) 0 sN with
    | none => rw [hrun] at hq; cases hq
    | some r =>
      rw [hrun] at hq
      have cC := cC w1 r (by omega) hr1 hgN hrun
      cases r with
      | error y =>
        obtain ⟨e0, p⟩ := y
        obtain rfl : q = .error (e0, p) := by cases hq; rfl
        clear hq hrun
        go_wp2_with fail
        refine cC.mono ?_
        rintro e w2 ⟨hk2, rfl⟩
        go_wp2_with fail
        exact ⟨rfl, hk1.trans hk2, rfl⟩
      | ok y =>
        obtain ⟨x, st⟩ := y
        clear hrun
        go_wp2_with fail
        refine cC.mono ?_
        rintro e w2 ⟨hk2, ⟨A, c, rfl, hT⟩, hr2, hg2⟩
        have hX : Var4 (w2.alloc (.cells #[c0 x, c1 x, c2 x, .slice A (lenT x) c] 24)) w2.heap.size (c0 x) (c1 x) (c2 x) (.slice A (lenT x) c) := heap_alloc_new _ _
        have hal : Below w2.heap.size w2 (w2.alloc (.cells #[c0 x, c1 x, c2 x, .slice A (lenT x) c] 24)) := (Below.refl _ _).alloc (Nat.le_refl _) _
        have hlt1 := hv1.lt
        have hr3 := hr2.below hal
        have hv3 := (hv1.kept hk2 hNB).below hal
        have hT3 := hT.below hal
        have hk3 := (hk1.trans hk2).trans (.of_below hal)
        generalize hw3 : w2.alloc (.cells #[c0 x, c1 x, c2 x, .slice A (lenT x) c] 24) = w3 at *
        have x0 := hX.a0; have x1 := hX.a1; have x2 := hX.a2; have x3 := hX.a3
        have k3 := hr3.c3
        clear cC hr2 hT hal
        by_cases he : st.kind = 1
        · have g2 : ((st.kind : Int) != 1) = false := by simp; omega
          have hq : (if 60 < hgt x then some (.error (42, st.place)) else some (.ok x)) = some q := by
            have : st.kind = 1 := he
            simp only [this, if_true] at hq
            exact hq
          have cD := Deep_any x A c _ w3 hT3
          have hh : decide ((60 : Int) < ((min 1000 (hgt x) : Nat) : Int)) = decide (60 < hgt x) := by
            rw [Bool.eq_iff_iff]; simp; omega
          obtain ⟨hm, hhm⟩ : ∃ hm : Nat, min 1000 (hgt x) = hm := ⟨_, rfl⟩
          rw [hhm] at cD hh
          by_cases h60 : 60 < hgt x
          · rw [if_pos h60] at hq
            obtain rfl : q = .error (42, st.place) := by cases hq; rfl
            rw [decide_eq_true h60] at hh
            have hh2 : (60 : Int) < (hm : Int) := by simpa using hh
            clear hhm h60 hq hh he
            go_wp2_with fail
            refine cD.mono ?_
            rintro e w4 ⟨rfl, hb4⟩
            have cW := wrong_any B 42 s bash st 0 _ (hr3.below hb4)
            go_wp2_with fail
            refine cW.mono ?_
            rintro e w5 ⟨rfl, hb5⟩
            go_wp2_with fail
            exact ⟨rfl, (hk3.trans (.of_below hb4)).trans (.of_below hb5), rfl⟩
          · rw [if_neg h60] at hq
            obtain rfl : q = .ok x := by cases hq; rfl
            rw [decide_eq_false h60] at hh
            clear hhm h60 hq he
            go_wp2_with fail
            refine cD.mono ?_
            rintro e w4 ⟨rfl, hb4⟩
            have hX4 := hX.below hb4
            have hv4 := hv3.below hb4
            have hT4 := hT3.below hb4
            have x0 := hX4.a0; have x1 := hX4.a1; have x2 := hX4.a2; have x3 := hX4.a3
            have v0 := hv4.a0; have v1 := hv4.a1; have v2 := hv4.a2; have v3 := hv4.a3; have f0 := hv4.free 0; have f1 := hv4.free 1; have f2 := hv4.free 2; have f3 := hv4.free 3
            go_wp2_with fail
            exact ret_sum rfl rfl (hv4.set _ _ _ _) rfl ⟨(hk3.trans (.of_below hb4)).set4 (Nat.le_refl _) _ _ _ _, A, c, rfl, (hT4.set4 (fun g hg e => by omega) _ _ _ _).weaken (fun g _ hg => by omega)⟩
        · have g2 : ((st.kind : Int) != 1) = true := by simp; omega
          obtain rfl : q = .error (33, st.place) := by
            have : ¬ st.kind = 1 := he
            simp only [this, if_false] at hq
            cases hq; rfl
          have cW := wrong_any B 33 s bash st 0 _ hr3
          clear hq he
          go_wp2_with fail
          refine cW.mono ?_
          rintro e w4 ⟨rfl, hb4⟩
          go_wp2_with fail
          exact ⟨rfl, hk3.trans (.of_below hb4), rfl⟩
end Go.Proofs.YthgmilllinbcjaaGreatDoor
namespace Go.Proofs.YthgmilllinbcjaaGreatDoor
open Go.RowKit
open Go.Lib (hid)

/-- The three cells of Parse's named results. -/
def Cells3 (B : Nat) (x y z k : Value) (n e : Int) (w : World) : Prop :=
  Var4 w B x y z k ∧ w.heap[B + 1]? = some (.cells #[.int .i64 n] 3 (0, 0)) ∧ w.heap[B + 2]? = some (.cells #[.int .i64 e] 27 (0, 0))

theorem run_assert_fault (v : Value) (w : World) : (Instr.typeAssert (.iface 96 v) 20 96 false).run Tryz.prog w = .ok v w := by
  simp [Instr.typeAssert, run_underlying Tryz.underlying96, go_sem, Result.andThen]

theorem fixed_idle (a b c : Addr) (w : World) :
    CallsD Tryz.prog 58 #[.pointer (some a), .pointer (some b), .pointer (some c)] .returning w fun e u' w' => e = .returned (.tuple #[]) ∧ u' = .returning ∧ w' = w := by
  refine callsD_of_wpS Tryz.func58 rfl fun c₀ cs hu => ?_
  apply wpS_seq
  apply wpS_region
  simp [wpOpsS, go_sem, recoverD, hu, Tryz.ntmps58, Exit.thenS]
  refine wpS_of_wp ?_
  go_wp2
  cases c₀
  simp_all [bodyPostS, results, Tryz.results58]

/-- The three results stored. -/
def stored3 (w : World) (B : Nat) (x y z k : Value) (n e : Int) : World :=
  (((((w.setCell ⟨B, 0, none⟩ x).setCell ⟨B, 1, none⟩ y).setCell ⟨B, 2, none⟩ z).setCell ⟨B, 3, none⟩ k).setCell ⟨B + 1, 0, none⟩ (.int .i64 n)).setCell ⟨B + 2, 0, none⟩ (.int .i64 e)
theorem set_ne {w : World} {b c : Nat} (h : c ≠ b) (v : Value) : (w.setCell ⟨b, 0, none⟩ v).heap[c]? = w.heap[c]? := Below.heap_setCell _ _ _ _ h
theorem Cells3.stored {B : Nat} {x y z k : Value} {n0 e0 : Int} {w : World} (h : Cells3 B x y z k n0 e0 w) (x' y' z' k' : Value) (n e : Int) : Cells3 B x' y' z' k' n e (stored3 w B x' y' z' k' n e) := by
  obtain ⟨h1, h2, h3⟩ := h
  refine ⟨?_, ?_, ?_⟩
  · exact (set_ne (by omega) _).trans ((set_ne (by omega) _).trans (h1.set x' y' z' k'))
  · exact (set_ne (by omega) _).trans (one_setCell ((heap_set4 _ _ _ _ (by omega)).trans h2))
  · exact one_setCell ((set_ne (by omega) _).trans ((heap_set4 _ _ _ _ (by omega)).trans h3))
theorem below_stored {B : Nat} {a w : World} (h : Below B a w) (x' y' z' k' : Value) (n e : Int) : Below B a (stored3 w B x' y' z' k' n e) :=
  ((below_set4 h (Nat.le_refl _) _ _ _ _).setCell (Nat.le_add_right _ _) _).setCell (Nat.le_add_right _ _) _

set_option maxHeartbeats 2000000 in
theorem fixed_panic (B : Nat) (x y z k : Value) (n0 e0 : Int) (n e : Int) (older : List PanicEntry) (w : World) (h : Cells3 B x y z k n0 e0 w) :
    CallsD Tryz.prog 58 #[.pointer (some ⟨B, 0, none⟩), .pointer (some ⟨B + 1, 0, none⟩), .pointer (some ⟨B + 2, 0, none⟩)] (.panicking (faultV e n :: older)) w fun e' u' w' =>
      e' = .returned (.tuple #[]) ∧ u' = .panicking ({ faultV e n with recovered := true } :: older) ∧ Cells3 B (.string ⟨#[]⟩) (.string ⟨#[]⟩) (.int .i64 0) (.slice none 0 0) n e w' ∧ Below B w w' := by
  have hta := run_assert_fault
  refine callsD_of_wpS Tryz.func58 rfl fun c₀ cs hu => ?_
  apply wpS_seq
  apply wpS_region
  simp [wpOpsS, go_sem, recoverD, hu, Tryz.ntmps58, Exit.thenS, faultV]
  refine wpS_of_wp ?_
  change Code.wp _ _ _ ⟨#[.pointer (some ⟨B, 0, none⟩), .pointer (some ⟨B + 1, 0, none⟩), .pointer (some ⟨B + 2, 0, none⟩), .iface 96 (.agg #[.int .i64 e, .int .i64 n]), undef, .iface 96 (.agg #[.int .i64 e, .int .i64 n]), undef, undef, undef, undef, undef, undef, undef, undef, undef], []⟩ _
  go_wp2
  have hB2 : B + 2 < w.heap.size := lt_of_block h.2.2
  have h' : Cells3 B x y z k n0 e0 (w.alloc (.cells #[.int .i64 e, .int .i64 n] 96)) :=
    ⟨h.1.alloc _, (Below.heap_alloc w _ (B + 1) (by omega)).trans h.2.1, (Below.heap_alloc w _ (B + 2) (by omega)).trans h.2.2⟩
  have hn : (w.alloc (.cells #[.int .i64 e, .int .i64 n] 96)).heap[w.heap.size]? = some (.cells #[.int .i64 e, .int .i64 n] 96 (0, 0)) := heap_alloc_new w _
  have hbl : Below B w (w.alloc (.cells #[.int .i64 e, .int .i64 n] 96)) := (Below.refl B w).alloc (by omega) _
  have HX : Hid (Cells3 B x y z k n0 e0 (w.alloc (.cells #[.int .i64 e, .int .i64 n] 96)) ∧ Below B w (w.alloc (.cells #[.int .i64 e, .int .i64 n] 96))) := hid ⟨h', hbl⟩
  generalize w.alloc (.cells #[.int .i64 e, .int .i64 n] 96) = w2 at *
  have a0 := h'.1.a0; have a1 := h'.1.a1; have a2 := h'.1.a2; have a3 := h'.1.a3
  have a4 := cell_of_one h'.2.1
  have a5 := cell_of_one h'.2.2
  have f0 := h'.1.free 0; have f1 := h'.1.free 1; have f2 := h'.1.free 2; have f3 := h'.1.free 3
  have f4 := free_of_one h'.2.1
  have f5 := free_of_one h'.2.2
  have b0 : w2.cell? ⟨w.heap.size, 0, none⟩ = some (.int .i64 e) := by simp [World.cell?, hn]
  have b1 : w2.cell? ⟨w.heap.size, 1, none⟩ = some (.int .i64 n) := by simp [World.cell?, hn]
  obtain ⟨N, hN⟩ : ∃ N, w.heap.size = N := ⟨_, rfl⟩
  rw [hN] at hB2 b0 b1 ⊢
  have hne1 : B ≠ N := by omega
  have hne2 : B + 1 ≠ N := by omega
  have hne3 : B + 2 ≠ N := by omega
  clear h h' hn hbl
  go_region
  have hst := HX.out.1.stored (.string ⟨#[]⟩) (.string ⟨#[]⟩) (.int .i64 0) (.slice none 0 0) n e
  have hbb := below_stored HX.out.2 (.string ⟨#[]⟩) (.string ⟨#[]⟩) (.int .i64 0) (.slice none 0 0) n e
  unfold stored3 at hst hbb
  generalize (((((w2.setCell ⟨B, 0, none⟩ (.string ⟨#[]⟩)).setCell ⟨B, 1, none⟩ (.string ⟨#[]⟩)).setCell ⟨B, 2, none⟩ (.int .i64 0)).setCell ⟨B, 3, none⟩ (.slice none 0 0)).setCell ⟨B + 1, 0, none⟩ (.int .i64 n)).setCell ⟨B + 2, 0, none⟩ (.int .i64 e) = w3 at *
  clear a0 a1 a2 a3 a4 a5 f0 f1 f2 f3 f4 f5 b0 b1 HX hta
  have hst : Cells3 B (.string ⟨#[]⟩) (.string ⟨#[]⟩) (.int .i64 0) (.slice none 0 0) n e w3.drew := hst
  have hbb := hbb.drew
  generalize w3.drew = w4 at *
  change bodyPostS _ _ _ _ _ _ _ _ _
  cases c₀
  simp [bodyPostS, results, Tryz.results58]
  exact ⟨hst, hbb⟩
end Go.Proofs.YthgmilllinbcjaaGreatDoor
namespace Go.Proofs.YthgmilllinbcjaaGreatDoor
open Go.RowKit
open Go.Lib (hid)

def ParsePost (n : Nat) (w : World) (q : Except (Int × Nat) T) (e : Ending) (w' : World) : Prop :=
  Below w.heap.size w w' ∧ ∃ A c, e = .returned (.tuple #[.agg #[c0 (treeOf q), c1 (treeOf q), c2 (treeOf q), .slice A (lenT (treeOf q)) c], .int .i64 (endOf n q), .int .i64 (errOf q)]) ∧ Tree w' (fun g => w.heap.size ≤ g) A c (treeOf q)

def W3 (w : World) : World := ((w.alloc (.cells #[.string ⟨#[]⟩, .string ⟨#[]⟩, .int .i64 0, .slice none 0 0] 24)).alloc (.cells #[.int .i64 0] 3)).alloc (.cells #[.int .i64 0] 27)
theorem cells_W3 (w : World) : Cells3 w.heap.size (.string ⟨#[]⟩) (.string ⟨#[]⟩) (.int .i64 0) (.slice none 0 0) 0 0 (W3 w) := by
  have h1 := heap_alloc_new w (.cells #[.string ⟨#[]⟩, .string ⟨#[]⟩, .int .i64 0, .slice none 0 0] 24)
  have h2 := heap_alloc_new (w.alloc (.cells #[.string ⟨#[]⟩, .string ⟨#[]⟩, .int .i64 0, .slice none 0 0] 24)) (.cells #[.int .i64 0] 3)
  have h3 := heap_alloc_new ((w.alloc (.cells #[.string ⟨#[]⟩, .string ⟨#[]⟩, .int .i64 0, .slice none 0 0] 24)).alloc (.cells #[.int .i64 0] 3)) (.cells #[.int .i64 0] 27)
  simp only [World.size_alloc] at h2 h3
  refine ⟨?_, ?_, h3⟩
  · exact (Below.heap_alloc _ _ _ (by simp; omega)).trans ((Below.heap_alloc _ _ _ (by simp)).trans h1)
  · exact (Below.heap_alloc _ _ _ (by simp)).trans h2
theorem below_W3 (w : World) : Below w.heap.size w (W3 w) := (((Below.refl _ w).alloc (Nat.le_refl _) _).alloc (by simp) _).alloc (by simp; omega) _
theorem size_W3 (w : World) : (W3 w).heap.size = w.heap.size + 3 := by simp [W3]
theorem Cells3.kept {N B : Nat} {x y z k : Value} {n e : Int} {w w' : World} (h : Cells3 N x y z k n e w) (hk : Kept B w w') (hB : N + 2 < B) : Cells3 N x y z k n e w' :=
  ⟨h.1.kept hk (by omega), (hk.block _ (lt_of_block h.2.1) (by omega)).trans h.2.1, (hk.block _ (lt_of_block h.2.2) (by omega)).trans h.2.2⟩
theorem Cells3.below {N : Nat} {x y z k : Value} {n e : Int} {w w' : World} (h : Cells3 N x y z k n e w) (hk : Below w.heap.size w w') : Cells3 N x y z k n e w' :=
  ⟨h.1.below hk, (hk.block _ (lt_of_block h.2.1)).trans h.2.1, (hk.block _ (lt_of_block h.2.2)).trans h.2.2⟩

theorem run_loadSum {w : World} {N : Nat} {x y z k : Value} (h : Var4 w N x y z k) : (loadVar 24 ⟨N, 0, none⟩).run Tryz.prog w = .ok (.agg #[x, y, z, k]) w :=
  run_loadVar_row w N 24 24 #[x, y, z, k] (0, 0) _ h Tryz.underlying24 rfl sum_size

set_option maxHeartbeats 2000000 in
theorem parse_any (s : ByteArray) (bash : Bool) (w : World) (hs : s.size ≤ maxLen) (q : Except (Int × Nat) T) (hq : Parsed bash s.data.toList q) :
    Calls Tryz.prog 34 #[.string s, .bool bash] w (ParsePost s.size w q) := by
  unfold maxLen at hs
  have hmf : ∀ (fn : Fn) (first cap : Array Value) (w : World), (Instr.makeFunc fn first cap).run Tryz.prog w = .ok (.func fn first cap) w := fun _ _ _ _ => rfl
  have hC := cells_W3 w
  have hB3 := below_W3 w
  have hs3 := size_W3 w
  rcases hq with ⟨hlen, rfl⟩ | ⟨hlen, n, hq⟩
  · rw [len_toList] at hlen
    have gl : (16384 : Int) < (s.size : Int) := by omega
    have a0 := hC.1.a0; have a1 := hC.1.a1; have a2 := hC.1.a2; have a3 := hC.1.a3
    have a4 := cell_of_one hC.2.1
    have a5 := cell_of_one hC.2.2
    have f0 := hC.1.free 0; have f1 := hC.1.free 1; have f2 := hC.1.free 2; have f3 := hC.1.free 3
    have f4 := free_of_one hC.2.1
    have f5 := free_of_one hC.2.2
    have hS := hC.stored (.string ⟨#[]⟩) (.string ⟨#[]⟩) (.int .i64 0) (.slice none 0 0) 0 5
    have hBS := below_stored hB3 (.string ⟨#[]⟩) (.string ⟨#[]⟩) (.int .i64 0) (.slice none 0 0) 0 5
    unfold W3 at *
    go_enter_defers Tryz.func34, Tryz.ntmps34
    generalize hW : ((w.alloc (.cells #[.string ⟨#[]⟩, .string ⟨#[]⟩, .int .i64 0, .slice none 0 0] 24)).alloc (.cells #[.int .i64 0] 3)).alloc (.cells #[.int .i64 0] 27) = W at *
    go_wp2
    unfold stored3 at hS hBS
    rw [show w.heap.size + 1 + 1 = w.heap.size + 2 by omega]
    generalize (((((W.setCell ⟨w.heap.size, 0, none⟩ (.string ⟨#[]⟩)).setCell ⟨w.heap.size, 1, none⟩ (.string ⟨#[]⟩)).setCell ⟨w.heap.size, 2, none⟩ (.int .i64 0)).setCell ⟨w.heap.size, 3, none⟩ (.slice none 0 0)).setCell ⟨w.heap.size + 1, 0, none⟩ (.int .i64 0)).setCell ⟨w.heap.size + 2, 0, none⟩ (.int .i64 5) = w5 at *
    have l0 := hS.1.a0; have l1 := hS.1.a1; have l4 := hS.1.a2; have l5 := hS.1.a3
    have l2 := cell_of_one hS.2.1
    have l3 := cell_of_one hS.2.2
    have HB := hid hBS
    clear a0 a1 a2 a3 a4 a5 f0 f1 f2 f3 f4 f5 hC hB3 hs3 hW hS hBS hmf gl hs
    simp [bodyPostD, Leaves, results, Tryz.results34, go_sem, l0, l1, l2, l3, l4, l5]
    exact ⟨HB.out, none, 0, rfl, rfl, rfl⟩
  · rw [len_toList] at hlen
    have gl : decide ((16384 : Int) < (s.size : Int)) = false := by simp; omega
    have hNB : w.heap.size + 2 < w.heap.size + 3 := by omega
    have hR : ∀ W1 : World, W1.heap.size = w.heap.size + 3 → Rd (W1.alloc (.cells #[.string s, .bool bash, .int .i64 0, .int .i64 0, .int .i64 0, .string ⟨#[]⟩, .int .i64 0, .int .i64 0] 102)) (w.heap.size + 3) s bash ⟨0, 0, 0, [], 0⟩ 0 := fun W1 h1 => by
      have := heap_alloc_new W1 (.cells #[.string s, .bool bash, .int .i64 0, .int .i64 0, .int .i64 0, .string ⟨#[]⟩, .int .i64 0, .int .i64 0] 102)
      rwa [h1] at this
    have hR := hR _ hs3
    have hal : Below (W3 w).heap.size (W3 w) ((W3 w).alloc (.cells #[.string s, .bool bash, .int .i64 0, .int .i64 0, .int .i64 0, .string ⟨#[]⟩, .int .i64 0, .int .i64 0] 102)) := (Below.refl _ _).alloc (Nat.le_refl _) _
    have hC := hC.below hal
    have hB3 := hB3.trans (hal.mono hB3.size)
    have cA := all_any (w.heap.size + 3) s bash _ hR hlen n q hq
    unfold W3 at *
    go_enter_defers Tryz.func34, Tryz.ntmps34
    go_wp2_with fail
    generalize (((w.alloc (.cells #[.string ⟨#[]⟩, .string ⟨#[]⟩, .int .i64 0, .slice none 0 0] 24)).alloc (.cells #[.int .i64 0] 3)).alloc (.cells #[.int .i64 0] 27)).alloc (.cells #[.string s, .bool bash, .int .i64 0, .int .i64 0, .int .i64 0, .string ⟨#[]⟩, .int .i64 0, .int .i64 0] 102) = W at *
    have hRo := hR
    clear hmf gl hal hs3 hR hq
    cases q with
    | error y =>
      obtain ⟨e0, p⟩ := y
      refine cA.mono ?_
      rintro e w1 ⟨hk1, rfl⟩
      have hC1 := hC.kept hk1 hNB
      have hB1 := hB3.trans (hk1.below hB3.size (by omega))
      clear hC hB3 cA
      go_wp2_with fail
      refine leaves_cons (f := 58) (args := #[.pointer (some ⟨w.heap.size, 0, none⟩), .pointer (some ⟨w.heap.size + 1, 0, none⟩), .pointer (some ⟨w.heap.size + 2, 0, none⟩)]) (by simp) (by simp [go_sem]) ?_
      refine (fixed_panic w.heap.size _ _ _ _ _ _ p e0 [] _ hC1).mono ?_
      rintro e' u' w2 ⟨rfl, rfl, hS, hb3⟩
      have l0 := hS.1.a0; have l1 := hS.1.a1; have l4 := hS.1.a2; have l5 := hS.1.a3
      have l2 := cell_of_one hS.2.1
      have l3 := cell_of_one hS.2.2
      have HB := hid (hB1.trans hb3)
      clear hS hb3 hC1 hB1
      simp [Leaves, settle, results, Tryz.results34, go_sem, l0, l1, l2, l3, l4, l5]
      exact ⟨HB.out, none, 0, rfl, rfl, rfl⟩
    | ok x =>
      refine cA.mono ?_
      rintro e w1 ⟨hk1, A, c, rfl, hT⟩
      have hC1 := hC.kept hk1 hNB
      have hB1 := hB3.trans (hk1.below hB3.size (by omega))
      have hWs : w.heap.size + 3 < W.heap.size := lt_of_block hRo
      have hT1 : Tree w1 (fun g => w.heap.size + 3 ≤ g) A c x := hT.weaken (fun g _ hg => by omega)
      have a0 := hC1.1.a0; have a1 := hC1.1.a1; have a2 := hC1.1.a2; have a3 := hC1.1.a3
      have a4 := cell_of_one hC1.2.1
      have a5 := cell_of_one hC1.2.2
      have f0 := hC1.1.free 0; have f1 := hC1.1.free 1; have f2 := hC1.1.free 2; have f3 := hC1.1.free 3
      have f4 := free_of_one hC1.2.1
      have f5 := free_of_one hC1.2.2
      have hS := hC1.stored (c0 x) (c1 x) (c2 x) (.slice A (lenT x) c) s.size 0
      have hBS := below_stored hB1 (c0 x) (c1 x) (c2 x) (.slice A (lenT x) c) s.size 0
      have hTS : Tree (stored3 w1 w.heap.size (c0 x) (c1 x) (c2 x) (.slice A (lenT x) c) s.size 0) (fun g => w.heap.size + 3 ≤ g) A c x :=
        Tree.frame (fun g _ hg => ⟨hg, (set_ne (by omega) _).trans ((set_ne (by omega) _).trans (heap_set4 _ _ _ _ (by omega)))⟩) x hT1
      clear hC hB3 cA hT hT1
      go_wp2_with fail
      unfold stored3 at hS hBS hTS
      rw [show w.heap.size + 1 + 1 = w.heap.size + 2 by omega]
      generalize (((((w1.setCell ⟨w.heap.size, 0, none⟩ (c0 x)).setCell ⟨w.heap.size, 1, none⟩ (c1 x)).setCell ⟨w.heap.size, 2, none⟩ (c2 x)).setCell ⟨w.heap.size, 3, none⟩ (.slice A (lenT x) c)).setCell ⟨w.heap.size + 1, 0, none⟩ (.int .i64 s.size)).setCell ⟨w.heap.size + 2, 0, none⟩ (.int .i64 0) = w5 at *
      have l0 := hS.1.a0; have l1 := hS.1.a1; have l4 := hS.1.a2; have l5 := hS.1.a3
      have l2 := cell_of_one hS.2.1
      have l3 := cell_of_one hS.2.2
      have HB := hid hBS
      have HT := hid (hTS.weaken (Q := fun g => w.heap.size ≤ g) (fun g _ hg => by omega))
      clear a0 a1 a2 a3 a4 a5 f0 f1 f2 f3 f4 f5 hC1 hB1 hS hBS hTS
      refine leaves_cons (f := 58) (args := #[.pointer (some ⟨w.heap.size, 0, none⟩), .pointer (some ⟨w.heap.size + 1, 0, none⟩), .pointer (some ⟨w.heap.size + 2, 0, none⟩)]) (by simp) (by simp [go_sem]) ?_
      refine (fixed_idle _ _ _ _).mono ?_
      rintro e' u' w2 ⟨rfl, rfl, rfl⟩
      simp [Leaves, settle, results, Tryz.results34, go_sem, l0, l1, l2, l3, l4, l5]
      exact ⟨HB.out, A, c, rfl, HT.out⟩
end Go.Proofs.YthgmilllinbcjaaGreatDoor
