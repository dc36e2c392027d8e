/- Contracts of arith's reader functions by induction on fuel: operand. No conditions but sizes. -/
import Derived.Test.YthgmilllinbcjaaGreatDoorZArX
namespace Go.Proofs.YthgmilllinbcjaaGreatDoor
open Go.RowKit
open Go.Lib (hid)

set_option maxHeartbeats 20000000 in
theorem opd_step (s : ByteArray) (bash : Bool) (hs : s.size ≤ 16384) (n : Nat) (ih : ∀ m, m ≤ n → IH s bash m) : ReadsAt s bash (n + 1) .opd 128 [] := by
  intro B d st w q hd h hg hq
  have hB := h.lt
  have hA := h.alloc (.cells #[.string ⟨#[]⟩, .string ⟨#[]⟩, .int .i64 0, .slice none 0 0] 24)
  have hK := (Kept.refl B w).alloc (.cells #[.string ⟨#[]⟩, .string ⟨#[]⟩, .int .i64 0, .slice none 0 0] 24)
  have hV := Var4z.new w
  have hsz : w.heap.size < (w.alloc (.cells #[.string ⟨#[]⟩, .string ⟨#[]⟩, .int .i64 0, .slice none 0 0] 24)).heap.size := hV.lt
  have hNB : w.heap.size ≠ B := by omega
  have hsE : (w.alloc (.cells #[.string ⟨#[]⟩, .string ⟨#[]⟩, .int .i64 0, .slice none 0 0] 24)).heap.size = w.heap.size + 1 := World.size_alloc ..
  have eg := enters_of Tryz.func128 (by kernel_rfl) rfl
  rw [run] at hq
  have k3 := hA.c3
  have k6 := hA.c6
  by_cases h2 : st.kind = 2
  · rw [if_pos h2] at hq
    obtain rfl : q = .ok (constT st.num, nxL bash s.data.toList st.at_) := by cases hq; rfl
    have g2 : ((st.kind : Int) == 2) = true := by simp; omega
    clear hq h2 hsE
    go_enter Tryz.func128, Tryz.ntmps128
    generalize hw0 : w.alloc (.cells #[.string ⟨#[]⟩, .string ⟨#[]⟩, .int .i64 0, .slice none 0 0] 24) = w0 at *
    have cN := next_any B s bash st d _ hA hs hg.at_le
    have hgN := (nx_good bash s.data.toList st.at_ (by rw [len_toList]; exact hg.at_le)).1
    rw [len_toList] at hgN
    go_wp2_with fail
    refine cN.mono ?_
    rintro e wn ⟨rfl, hrn, hkn⟩
    have hvn := hV.kept hkn hNB
    have hkn := hK.trans hkn
    clear cN hA hK hV
    clear hw0
    go_wp2_with fail
    refine (constant_any st.num hg.lo hg.hi _).mono ?_
    rintro e w5 ⟨A, c, rfl, hT, hb5⟩
    have hv5 := hvn.below hb5
    have hr5 := hrn.below hb5
    have hNn := hvn.lt
    have hk5 := hkn.trans (.of_below hb5)
    have v0 := hv5.a0; have v1 := hv5.a1; have v2 := hv5.a2; have v3 := hv5.a3; have f0 := hv5.free 0; have f1 := hv5.free 1; have f2 := hv5.free 2; have f3 := hv5.free 3
    go_wp2_with fail
    refine ret_sum rfl rfl (hv5.set _ _ _ _) rfl ?_
    exact ⟨hk5.set4 (Nat.le_refl _) _ _ _ _, ⟨A, c, rfl, (hT.set4 (fun g hg e => by omega) _ _ _ _).weaken (fun g _ hg => by omega)⟩, hr5.set4 (by omega) _ _ _ _, hgN⟩
  rw [if_neg h2] at hq
  have g2 : ((st.kind : Int) == 2) = false := by simp; omega
  by_cases h3 : st.kind = 3
  · rw [if_pos h3] at hq
    have g3 : ((st.kind : Int) == 3) = true := by simp; omega
    have cS := stepped_any B s bash st d _ hA hg hs h3
    have hgN := (nx_good bash s.data.toList st.at_ (by rw [len_toList]; exact hg.at_le)).1
    rw [len_toList] at hgN
    have hgN2 := (nx_good bash s.data.toList (nxL bash s.data.toList st.at_).at_ (by rw [len_toList]; exact hgN.at_le)).1
    rw [len_toList] at hgN2
    generalize nxL bash s.data.toList st.at_ = sN at *
    obtain ⟨b, hb⟩ : ∃ b, (isB sN [43, 43] || isB sN [45, 45]) = b := ⟨_, rfl⟩
    rw [hb] at hq cS
    clear h2 h3 hsE hb
    go_enter Tryz.func128, Tryz.ntmps128
    generalize hw0 : w.alloc (.cells #[.string ⟨#[]⟩, .string ⟨#[]⟩, .int .i64 0, .slice none 0 0] 24) = w0 at *
    go_wp2_with fail
    cases b
    · obtain rfl : q = .ok (.leaf st.text 0, sN) := by cases hq; rfl
      refine cS.mono ?_
      rintro e w5 ⟨hk5, rfl, hr5⟩
      have hv5 := hV.kept hk5 hNB
      have hk5 := hK.trans hk5
      have v0 := hv5.a0; have v1 := hv5.a1; have v2 := hv5.a2; have v3 := hv5.a3; have f0 := hv5.free 0; have f1 := hv5.free 1; have f2 := hv5.free 2; have f3 := hv5.free 3
      go_wp2_with fail
      refine ret_sum rfl rfl (hv5.set _ _ _ _) rfl ?_
      exact ⟨hk5.set4 (Nat.le_refl _) _ _ _ _, ⟨none, 0, rfl, rfl, rfl⟩, hr5.set4 (by omega) _ _ _ _, hgN⟩
    · obtain rfl : q = .ok (.one ([112, 111, 115, 116] ++ sN.text) (.leaf st.text 0), nxL bash s.data.toList sN.at_) := by cases hq; rfl
      refine cS.mono ?_
      rintro e w5 ⟨hk5, A, c, rfl, hT, hr5⟩
      have hv5 := hV.kept hk5 hNB
      have hNn := hV.lt
      have hk5 := hK.trans hk5
      have v0 := hv5.a0; have v1 := hv5.a1; have v2 := hv5.a2; have v3 := hv5.a3; have f0 := hv5.free 0; have f1 := hv5.free 1; have f2 := hv5.free 2; have f3 := hv5.free 3
      go_wp2_with fail
      refine ret_sum rfl rfl (hv5.set _ _ _ _) rfl ?_
      exact ⟨hk5.set4 (Nat.le_refl _) _ _ _ _, ⟨A, c, rfl, (hT.set4 (fun g hg e => by omega) _ _ _ _).weaken (fun g _ hg => by omega)⟩, hr5.set4 (by omega) _ _ _ _, hgN2⟩
  rw [if_neg h3] at hq
  have g3 : ((st.kind : Int) == 3) = false := by simp; omega
  clear h2 h3
  go_enter Tryz.func128, Tryz.ntmps128
  generalize hw0 : w.alloc (.cells #[.string ⟨#[]⟩, .string ⟨#[]⟩, .int .i64 0, .slice none 0 0] 24) = w0 at *
  go_wp2_with fail
  clear hw0
  have cI := is_two [33] [126] B s bash st d _ hA
  rw [hsE] at cI
  have hA := hA.alloc (.cells #[.string ⟨[33].toArray⟩, .string ⟨[126].toArray⟩] 9)
  have hK := hK.alloc (.cells #[.string ⟨[33].toArray⟩, .string ⟨[126].toArray⟩] 9)
  have hV := hV.alloc (.cells #[.string ⟨[33].toArray⟩, .string ⟨[126].toArray⟩] 9)
  refine cI.mono ?_
  rintro e w9 ⟨rfl, rfl⟩
  clear cI
  generalize w0.alloc (.cells #[.string ⟨[33].toArray⟩, .string ⟨[126].toArray⟩] 9) = w1 at *
  obtain ⟨b, hb⟩ : ∃ b, (isB st [33] || isB st [126]) = b := ⟨_, rfl⟩
  rw [hb]
  rw [hb] at hq
  clear hb
  cases b
  rotate_left
  · rw [if_pos rfl] at hq
    have cN := take_any B s bash st d _ hA hs hg.at_le
    have hgN := (nx_good bash s.data.toList st.at_ (by rw [len_toList]; exact hg.at_le)).1
    rw [len_toList] at hgN
    go_wp2_with fail
    refine cN.mono ?_
    rintro e wn ⟨rfl, hrn, hkn⟩
    have hvn := hV.kept hkn hNB
    have hkn := hK.trans hkn
    clear cN hA hK hV
    have hlen := hg.len
    obtain ⟨m, rfl⟩ : ∃ m, n = m + 1 := by
      cases n with
      | zero => simp [run, Rs.andThen] at hq
      | succ m => exact ⟨m, rfl⟩
    generalize nxL bash s.data.toList st.at_ = sN at *
    rcases andThen_some hq with ⟨e1, hrun, rfl⟩ | ⟨x, st1, hrun, hq2⟩
    · have cC := wth_any (ih m (Nat.le_succ _)).opd eg B d _ _ _ hd hrn hgN hrun
      obtain ⟨e0, p⟩ := e1
      clear hq hrun
      go_wp2_with fail
      refine cC.mono ?_
      rintro e w5 ⟨hk5, rfl⟩
      go_wp2_with fail
      exact ⟨rfl, hkn.trans hk5, rfl⟩
    · have cC := wth_any (ih m (Nat.le_succ _)).opd eg B d _ _ _ hd hrn hgN hrun
      obtain rfl : q = .ok (.one st.text x, st1) := by cases hq2; rfl
      clear hq hrun hq2
      go_wp2_with fail
      refine cC.mono ?_
      rintro e w5 ⟨hk5, ⟨A, c, rfl, hT⟩, hr5, hg5⟩
      have hv5 := hvn.kept hk5 hNB
      have hNn := hvn.lt
      have hs5 := hk5.size
      have hk5 := hkn.trans hk5
      clear cC
      go_wp2_with fail
      refine (made_any st.text (by omega) _ _ _ _).mono ?_
      rintro e w6 ⟨rfl, hb6⟩
      have hv6 := (hv5.alloc _).below hb6
      have hr6 := (hr5.alloc _).below hb6
      have hk6 := (hk5.alloc _).trans (.of_below hb6)
      have hP6 := (hb6.block _ (by simp)).trans (heap_alloc_new _ _)
      have hT6 := (hT.below ((Below.refl _ _).alloc (Nat.le_refl _) _)).below hb6
      have hTT : Tree w6 (fun g => w.heap.size + 1 ≤ g) (some ⟨w5.heap.size, 0, none⟩) 1 (.one st.text x) := ⟨w5.heap.size, A, c, rfl, rfl, by omega, hP6, hT6.weaken (fun g _ hg => by omega)⟩
      have v0 := hv6.a0; have v1 := hv6.a1; have v2 := hv6.a2; have v3 := hv6.a3; have f0 := hv6.free 0; have f1 := hv6.free 1; have f2 := hv6.free 2; have f3 := hv6.free 3
      go_wp2_with fail
      refine ret_sum rfl rfl (hv6.set _ _ _ _) rfl ?_
      exact ⟨hk6.set4 (Nat.le_refl _) _ _ _ _, ⟨_, _, rfl, (hTT.set4 (fun g hg e => by omega) _ _ _ _).weaken (fun g _ hg => by omega)⟩, hr6.set4 (by omega) _ _ _ _, hg5⟩
  rw [if_neg (by decide)] at hq
  go_wp2_with fail
  have cI := is_one [45] B s bash st d _ hA
  have hA := hA.alloc (.cells #[.string ⟨[45].toArray⟩] 9)
  have hK := hK.alloc (.cells #[.string ⟨[45].toArray⟩] 9)
  have hV := hV.alloc (.cells #[.string ⟨[45].toArray⟩] 9)
  refine cI.mono ?_
  rintro e w9 ⟨rfl, rfl⟩
  clear cI
  generalize w1.alloc (.cells #[.string ⟨[45].toArray⟩] 9) = w2 at *
  obtain ⟨b, hb⟩ : ∃ b, isB st [45] = b := ⟨_, rfl⟩
  rw [hb]
  rw [hb] at hq
  clear hb
  cases b
  rotate_left
  · rw [if_pos rfl] at hq
    have cN := next_any B s bash st d _ hA hs hg.at_le
    have hgN := (nx_good bash s.data.toList st.at_ (by rw [len_toList]; exact hg.at_le)).1
    rw [len_toList] at hgN
    go_wp2_with fail
    refine cN.mono ?_
    rintro e wn ⟨rfl, hrn, hkn⟩
    have hvn := hV.kept hkn hNB
    have hkn := hK.trans hkn
    clear cN hA hK hV
    have hlen := hg.len
    obtain ⟨m, rfl⟩ : ∃ m, n = m + 1 := by
      cases n with
      | zero => simp [run, Rs.andThen] at hq
      | succ m => exact ⟨m, rfl⟩
    generalize nxL bash s.data.toList st.at_ = sN at *
    rcases andThen_some hq with ⟨e1, hrun, rfl⟩ | ⟨x, st1, hrun, hq2⟩
    · have cC := wth_any (ih m (Nat.le_succ _)).opd eg B d _ _ _ hd hrn hgN hrun
      obtain ⟨e0, p⟩ := e1
      clear hq hrun
      go_wp2_with fail
      refine cC.mono ?_
      rintro e w5 ⟨hk5, rfl⟩
      go_wp2_with fail
      exact ⟨rfl, hkn.trans hk5, rfl⟩
    · have cC := wth_any (ih m (Nat.le_succ _)).opd eg B d _ _ _ hd hrn hgN hrun
      obtain rfl : q = .ok (.one [110, 101, 103] x, st1) := by cases hq2; rfl
      clear hq hrun hq2
      go_wp2_with fail
      refine cC.mono ?_
      rintro e w5 ⟨hk5, ⟨A, c, rfl, hT⟩, hr5, hg5⟩
      have hv5 := hvn.kept hk5 hNB
      have hNn := hvn.lt
      have hs5 := hk5.size
      have hk5 := hkn.trans hk5
      clear cC
      go_wp2_with fail
      refine (made_any [110, 101, 103] (by decide) _ _ _ _).mono ?_
      rintro e w6 ⟨rfl, hb6⟩
      have hv6 := (hv5.alloc _).below hb6
      have hr6 := (hr5.alloc _).below hb6
      have hk6 := (hk5.alloc _).trans (.of_below hb6)
      have hP6 := (hb6.block _ (by simp)).trans (heap_alloc_new _ _)
      have hT6 := (hT.below ((Below.refl _ _).alloc (Nat.le_refl _) _)).below hb6
      have hTT : Tree w6 (fun g => w.heap.size + 1 ≤ g) (some ⟨w5.heap.size, 0, none⟩) 1 (.one [110, 101, 103] x) := ⟨w5.heap.size, A, c, rfl, rfl, by omega, hP6, hT6.weaken (fun g _ hg => by omega)⟩
      have v0 := hv6.a0; have v1 := hv6.a1; have v2 := hv6.a2; have v3 := hv6.a3; have f0 := hv6.free 0; have f1 := hv6.free 1; have f2 := hv6.free 2; have f3 := hv6.free 3
      go_wp2_with fail
      refine ret_sum rfl rfl (hv6.set _ _ _ _) rfl ?_
      exact ⟨hk6.set4 (Nat.le_refl _) _ _ _ _, ⟨_, _, rfl, (hTT.set4 (fun g hg e => by omega) _ _ _ _).weaken (fun g _ hg => by omega)⟩, hr6.set4 (by omega) _ _ _ _, hg5⟩
  rw [if_neg (by decide)] at hq
  go_wp2_with fail
  have cI := is_one [43] B s bash st d _ hA
  have hA := hA.alloc (.cells #[.string ⟨[43].toArray⟩] 9)
  have hK := hK.alloc (.cells #[.string ⟨[43].toArray⟩] 9)
  have hV := hV.alloc (.cells #[.string ⟨[43].toArray⟩] 9)
  refine cI.mono ?_
  rintro e w9 ⟨rfl, rfl⟩
  clear cI
  generalize w2.alloc (.cells #[.string ⟨[43].toArray⟩] 9) = w3 at *
  obtain ⟨b, hb⟩ : ∃ b, isB st [43] = b := ⟨_, rfl⟩
  rw [hb]
  rw [hb] at hq
  clear hb
  cases b
  rotate_left
  · rw [if_pos rfl] at hq
    have cN := next_any B s bash st d _ hA hs hg.at_le
    have hgN := (nx_good bash s.data.toList st.at_ (by rw [len_toList]; exact hg.at_le)).1
    rw [len_toList] at hgN
    go_wp2_with fail
    refine cN.mono ?_
    rintro e wn ⟨rfl, hrn, hkn⟩
    have hvn := hV.kept hkn hNB
    have hkn := hK.trans hkn
    clear cN hA hK hV
    obtain ⟨m, rfl⟩ : ∃ m, n = m + 1 := by
      cases n with
      | zero => simp [run] at hq
      | succ m => exact ⟨m, rfl⟩
    have cC := wth_any (ih m (Nat.le_succ _)).opd eg B d _ _ _ hd hrn hgN hq
    clear hq
    go_wp2_with fail
    cases q with
    | error y =>
      obtain ⟨e0, p⟩ := y
      refine cC.mono ?_
      rintro e w5 ⟨hk5, rfl⟩
      go_wp2_with fail
      exact ⟨rfl, hkn.trans hk5, rfl⟩
    | ok y =>
      obtain ⟨x, st1⟩ := y
      refine cC.mono ?_
      rintro e w5 ⟨hk5, ⟨A, c, rfl, hT⟩, hr5, hg5⟩
      have hv5 := hvn.kept hk5 hNB
      have hNn := hvn.lt
      have hk5 := hkn.trans hk5
      clear cC
      have v0 := hv5.a0; have v1 := hv5.a1; have v2 := hv5.a2; have v3 := hv5.a3; have f0 := hv5.free 0; have f1 := hv5.free 1; have f2 := hv5.free 2; have f3 := hv5.free 3
      go_wp2_with fail
      refine ret_sum rfl rfl (hv5.set _ _ _ _) rfl ?_
      exact ⟨hk5.set4 (Nat.le_refl _) _ _ _ _, ⟨A, c, rfl, (hT.set4 (fun g hg e => by omega) _ _ _ _).weaken (fun g _ hg => by omega)⟩, hr5.set4 (by omega) _ _ _ _, hg5⟩
  rw [if_neg (by decide)] at hq
  go_wp2_with fail
  have cI := is_two [43, 43] [45, 45] B s bash st d _ hA
  have hA := hA.alloc (.cells #[.string ⟨[43, 43].toArray⟩, .string ⟨[45, 45].toArray⟩] 9)
  have hK := hK.alloc (.cells #[.string ⟨[43, 43].toArray⟩, .string ⟨[45, 45].toArray⟩] 9)
  have hV := hV.alloc (.cells #[.string ⟨[43, 43].toArray⟩, .string ⟨[45, 45].toArray⟩] 9)
  refine cI.mono ?_
  rintro e w9 ⟨rfl, rfl⟩
  clear cI
  generalize w3.alloc (.cells #[.string ⟨[43, 43].toArray⟩, .string ⟨[45, 45].toArray⟩] 9) = w4 at *
  obtain ⟨b, hb⟩ : ∃ b, (isB st [43, 43] || isB st [45, 45]) = b := ⟨_, rfl⟩
  rw [hb]
  rw [hb] at hq
  clear hb
  cases b
  rotate_left
  · rw [if_pos rfl] at hq
    have hlen := hg.len
    have hsz1 := size_list st.text
    have hl2 : (st.text.length : Int) ≤ 16384 := by omega
    have cN := take_any B s bash st d _ hA hs hg.at_le
    have hgN := (nx_good bash s.data.toList st.at_ (by rw [len_toList]; exact hg.at_le)).1
    rw [len_toList] at hgN
    go_wp2_with fail
    refine cN.mono ?_
    rintro e wn ⟨rfl, hrn, hkn⟩
    have hvn := hV.kept hkn hNB
    have hkn := hK.trans hkn
    clear cN hA hK hV
    have hgN2 := (nx_good bash s.data.toList (nxL bash s.data.toList st.at_).at_ (by rw [len_toList]; exact hgN.at_le)).1
    rw [len_toList] at hgN2
    have cV := variable_any B s bash _ d _ hrn hgN hs
    generalize nxL bash s.data.toList st.at_ = sN at *
    have he : (⟨#[112, 114, 101]⟩ : ByteArray) ++ ⟨st.text.toArray⟩ = ⟨([112, 114, 101] ++ st.text).toArray⟩ := cat_list [112, 114, 101] st.text
    have cM : ∀ (A : Option Addr) (k c : Nat) (W : World), Calls Tryz.prog 106 #[.string ((⟨#[112, 114, 101]⟩ : ByteArray) ++ ⟨st.text.toArray⟩), .slice A k c] W fun e w' => e = .returned (.agg #[.string ((⟨#[112, 114, 101]⟩ : ByteArray) ++ ⟨st.text.toArray⟩), .string ⟨#[]⟩, .int .i64 0, .slice A k c]) ∧ Below W.heap.size W w' := fun A k c W => by
      rw [he]; exact made_any ([112, 114, 101] ++ st.text) (by simp; omega) A k c W
    have HE := hid he
    clear he
    by_cases hk3 : sN.kind = 3
    · rw [if_pos hk3] at hq
      simp only [hk3, if_true] at cV
      obtain rfl : q = .ok (.one ([112, 114, 101] ++ st.text) (.leaf sN.text 0), nxL bash s.data.toList sN.at_) := by cases hq; rfl
      clear hq
      go_wp2_with fail
      refine cV.mono ?_
      rintro e w5 ⟨hk5, rfl, hr5⟩
      have hv5 := hvn.kept hk5 hNB
      have hNn := hvn.lt
      have hs5 := hk5.size
      have hk5 := hkn.trans hk5
      go_wp2_with fail
      refine (cM _ _ _ _).mono ?_
      rintro e w6 ⟨rfl, hb6⟩
      have hv6 := (hv5.alloc _).below hb6
      have hr6 := (hr5.alloc _).below hb6
      have hk6 := (hk5.alloc _).trans (.of_below hb6)
      have hP6 := (hb6.block _ (by simp)).trans (heap_alloc_new _ _)
      have hTT : Tree w6 (fun g => w.heap.size + 1 ≤ g) (some ⟨w5.heap.size, 0, none⟩) 1 (.one ([112, 114, 101] ++ st.text) (.leaf sN.text 0)) := ⟨w5.heap.size, none, 0, rfl, rfl, by omega, hP6, rfl, rfl⟩
      have v0 := hv6.a0; have v1 := hv6.a1; have v2 := hv6.a2; have v3 := hv6.a3; have f0 := hv6.free 0; have f1 := hv6.free 1; have f2 := hv6.free 2; have f3 := hv6.free 3
      go_wp2_with fail
      refine ret_sum rfl rfl (hv6.set _ _ _ _) rfl ?_
      exact ⟨hk6.set4 (Nat.le_refl _) _ _ _ _, ⟨_, _, by rw [HE.out]; rfl, (hTT.set4 (fun g hg e => by omega) _ _ _ _).weaken (fun g _ hg => by omega)⟩, hr6.set4 (by omega) _ _ _ _, hgN2⟩
    · rw [if_neg hk3] at hq
      simp only [hk3, if_false] at cV
      obtain rfl : q = .error (33, sN.place) := by cases hq; rfl
      clear hq
      go_wp2_with fail
      refine cV.mono ?_
      rintro e w5 ⟨hk5, rfl⟩
      go_wp2_with fail
      exact ⟨rfl, hkn.trans hk5, rfl⟩
  rw [if_neg (by decide)] at hq
  go_wp2_with fail
  have cI := is_one [40] B s bash st d _ hA
  have hA := hA.alloc (.cells #[.string ⟨[40].toArray⟩] 9)
  have hK := hK.alloc (.cells #[.string ⟨[40].toArray⟩] 9)
  have hV := hV.alloc (.cells #[.string ⟨[40].toArray⟩] 9)
  refine cI.mono ?_
  rintro e w9 ⟨rfl, rfl⟩
  clear cI
  generalize w4.alloc (.cells #[.string ⟨[40].toArray⟩] 9) = w5 at *
  obtain ⟨b, hb⟩ : ∃ b, isB st [40] = b := ⟨_, rfl⟩
  rw [hb]
  rw [hb] at hq
  clear hb
  cases b
  rotate_left
  · rw [if_pos rfl] at hq
    have cN := next_any B s bash st d _ hA hs hg.at_le
    have hgN := (nx_good bash s.data.toList st.at_ (by rw [len_toList]; exact hg.at_le)).1
    rw [len_toList] at hgN
    go_wp2_with fail
    refine cN.mono ?_
    rintro e wn ⟨rfl, hrn, hkn⟩
    have hvn := hV.kept hkn hNB
    have hkn := hK.trans hkn
    clear cN hA hK hV
    generalize nxL bash s.data.toList st.at_ = sN at *
    rcases andThen_some hq with ⟨e1, hrun, rfl⟩ | ⟨x, st1, hrun, hq2⟩
    · have cC := (ih n (Nat.le_refl _)).chain 1 (.inl rfl) B d _ _ _ hd hrn hgN hrun
      rw [show ((1 : Nat) : Int) = 1 from rfl] at cC
      obtain ⟨e0, p⟩ := e1
      clear hq hrun
      go_wp2_with fail
      refine cC.mono ?_
      rintro e w5 ⟨hk5, rfl⟩
      go_wp2_with fail
      exact ⟨rfl, hkn.trans hk5, rfl⟩
    · have cC := (ih n (Nat.le_refl _)).chain 1 (.inl rfl) B d _ _ _ hd hrn hgN hrun
      rw [show ((1 : Nat) : Int) = 1 from rfl] at cC
      clear hq hrun
      go_wp2_with fail
      refine cC.mono ?_
      rintro e w5 ⟨hk5, ⟨A, c, rfl, hT⟩, hr5, hg5⟩
      have hv5 := hvn.kept hk5 hNB
      have hNn := hvn.lt
      have hs5 := hk5.size
      have hk5 := hkn.trans hk5
      have hX : Var4 (w5.alloc (.cells #[c0 x, c1 x, c2 x, .slice A (lenT x) c] 24)) w5.heap.size (c0 x) (c1 x) (c2 x) (.slice A (lenT x) c) := heap_alloc_new _ _
      have hal : Below w5.heap.size w5 (w5.alloc (.cells #[c0 x, c1 x, c2 x, .slice A (lenT x) c] 24)) := (Below.refl _ _).alloc (Nat.le_refl _) _
      have hr6 := hr5.below hal
      have hv6 := hv5.below hal
      have hT6 := hT.below hal
      have hk6 := hk5.trans (.of_below hal)
      generalize hw6 : w5.alloc (.cells #[c0 x, c1 x, c2 x, .slice A (lenT x) c] 24) = w6 at *
      have cW := want_any [41] B s bash st1 d w6 hr6 hs hg5.at_le
      have hNX : w5.heap.size ≠ B := by omega
      have hgN2 := (nx_good bash s.data.toList st1.at_ (by rw [len_toList]; exact hg5.at_le)).1
      rw [len_toList] at hgN2
      go_wp2_with fail
      cases hb : isB st1 [41]
      · rw [hb] at hq2 cW
        rw [if_neg (by decide)] at hq2
        obtain rfl : q = .error (33, st1.place) := by cases hq2; rfl
        refine cW.mono ?_
        rintro e w7 ⟨hk7, rfl⟩
        go_wp2_with fail
        exact ⟨rfl, hk6.trans hk7, rfl⟩
      · rw [hb] at hq2 cW
        rw [if_pos rfl] at hq2
        obtain rfl : q = .ok (x, nxL bash s.data.toList st1.at_) := by cases hq2; rfl
        refine cW.mono ?_
        rintro e w7 ⟨hk7, rfl, hr7⟩
        have hX7 := hX.kept hk7 hNX
        have hv7 := hv6.kept hk7 hNB
        have hT7 : Tree w7 (fun g => wn.heap.size ≤ g) A c x := hT6.kept hk7 (by omega)
        have hk7 := hk6.trans hk7
        have x0 := hX7.a0; have x1 := hX7.a1; have x2 := hX7.a2; have x3 := hX7.a3
        have v0 := hv7.a0; have v1 := hv7.a1; have v2 := hv7.a2; have v3 := hv7.a3; have f0 := hv7.free 0; have f1 := hv7.free 1; have f2 := hv7.free 2; have f3 := hv7.free 3
        go_wp2_with fail
        refine ret_sum rfl rfl (hv7.set _ _ _ _) rfl ?_
        exact ⟨hk7.set4 (Nat.le_refl _) _ _ _ _, ⟨A, c, rfl, (hT7.set4 (fun g hg e => by omega) _ _ _ _).weaken (fun g _ hg => by omega)⟩, hr7.set4 (by omega) _ _ _ _, hgN2⟩
  rw [if_neg (by decide)] at hq
  obtain rfl : q = .error (33, st.place) := by cases hq; rfl
  have cW := wrong_any B 33 s bash st d _ hA
  go_wp2_with fail
  refine cW.mono ?_
  rintro e w7 ⟨rfl, hb7⟩
  go_wp2_with fail
  exact ⟨rfl, hK.trans (.of_below hb7), rfl⟩
end Go.Proofs.YthgmilllinbcjaaGreatDoor
