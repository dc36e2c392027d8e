
/- Contracts of the reference's Check and ask. Conditions: sizes. -/
import Derived.Test.YtnedjpopadkdeaaDoorTreN
import Derived.Sort.Walk0
namespace Go.Proofs.YtnedjpopadkdeaaDoor
open Go.RowKit
open Go.Lib (hid)

def sumX (t : List ND) : Nat := (t.map fun n => n.x.length).sum
theorem sumX_take (t : List ND) (k : Nat) (h : k < t.length) : sumX (t.take (k + 1)) = sumX (t.take k) + t[k].x.length := by
  show ((t.take (k + 1)).map fun n => n.x.length).sum = ((t.take k).map fun n => n.x.length).sum + _
  rw [List.take_succ_eq_append_getElem h, List.map_append, List.sum_append, List.map_cons, List.map_nil, List.sum_cons, List.sum_nil, Nat.add_zero]
/-- May the node at place k be? -/
def OkAt (t : List ND) (k : Nat) (h : k < t.length) : Prop :=
  (0 ∉ t[k].p ∧ t[k].p ≠ []) ∧ pathL t[k].p = t[k].p ∧ t[k].p ≠ [47] ∧ (∀ _ : 0 < k, t[k - 1].p < t[k].p) ∧ (t[k].d = true → t[k].x = []) ∧ sumX (t.take (k + 1)) ≤ 65536 ∧ kindL t (aboveL t[k].p) = 2
def OkT (t : List ND) : Prop := t.length ≤ 256 ∧ ∀ k (h : k < t.length), OkAt t k h
open Classical in
noncomputable def checkL (t : List ND) : Int := if OkT t then 0 else 9
theorem checkL_bad {t : List ND} {k : Nat} {h : k < t.length} (hb : ¬ OkAt t k h) : checkL t = 9 := by
  unfold checkL
  rw [if_neg fun ho => hb (ho.2 k h)]
/-- No text of a tree is too long for a walk. -/
def SizeT (t : List ND) : Prop := ∀ n ∈ t, n.p.length ≤ 274877906944 ∧ n.x.length ≤ 274877906944
theorem pathQ_ok {p : List UInt8} (h : 0 ∉ p ∧ p ≠ []) : pathQ p = (pathL p, 0) := by unfold pathQ; rw [if_neg (by rintro (e | e); exact h.1 e; exact h.2 e)]
theorem pathQ_bad {p : List UInt8} (h : ¬ (0 ∉ p ∧ p ≠ [])) : pathQ p = ([], 31) := by
  unfold pathQ
  rw [if_pos (Classical.byContradiction fun hn => h ⟨fun e => hn (.inl e), fun e => hn (.inr e)⟩)]

set_option maxRecDepth 100000 in
set_option maxHeartbeats 16000000 in
theorem rCheck_any (A : Option Addr) (c : Nat) (t : List ND) (w : World) (hT : NodesP w (fun _ => True) A t) (hl : t.length ≤ 1099511627776) (hz : SizeT t) :
    Calls Tryd.prog 50 #[.slice A t.length c] w fun e w' => e = .returned (.int .i64 (checkL t)) ∧ Below w.heap.size w w' := by
  by_cases h256 : 256 < t.length
  · have HC : Hid (checkL t = 9) := hid (by unfold checkL; rw [if_neg fun ho => by have := ho.1; omega])
    have g0 : (256 : Int) < (t.length : Int) := by omega
    clear h256 hT hz
    go_enter Tryd.func50, Tryd.ntmps50
    go_wp2
    go_ret
    exact ⟨by rw [HC.out]; rfl, Below.refl _ _⟩
  have g0 : decide ((256 : Int) < (t.length : Int)) = false := by simp; omega
  have HL : Hid (t.length ≤ 256) := hid (by omega)
  clear h256
  go_enter Tryd.func50, Tryd.ntmps50
  go_wp2
  clear g0
  go_loopw [3, 4] (fun s i wr => ∃ (k n : Nat), k ≤ t.length ∧ i = .int .i64 k ∧ s = .int .i64 n ∧ n ≤ 65536 ∧ Hid (n = sumX (t.take k)) ∧ Hid (∀ j (h : j < t.length), j < k → OkAt t j h) ∧ Below w.heap.size w wr) (fun _ i _ => t.length - (intOf i).toNat)
  case atStart => exact ⟨0, 0, Nat.zero_le _, rfl, rfl, by omega, hid rfl, hid (fun j _ h => absurd h (Nat.not_lt_zero _)), Below.refl _ _⟩
  case round =>
    obtain ⟨k, n, hk, rfl, rfl, hn, HN, HZ, hB⟩ := hrel
    by_cases hlt : k < t.length
    · have hTr := hT.below hB
      obtain ⟨hp1, hp2⟩ := hz _ (List.getElem_mem hlt)
      have hsm := sumX_take t k hlt
      rw [← HN.out] at hsm
      obtain ⟨g, o, rfl, -, c0, c1, c2⟩ := hTr k hlt
      have cP := fun W => rPath_any t[k].p W (by omega)
      have cA := fun W => rabove_any t[k].p W (by omega)
      have cK := fun W (hb : Below wr.heap.size wr W) => rkind_any (some ⟨g, o, none⟩) c t (aboveL t[k].p) W (hTr.below hb) hl
      have hprev : ∀ h : 0 < k, wr.cell? ⟨g, o + (k - 1) * 3, none⟩ = some (encS t[k - 1].p) := fun h => by
        obtain ⟨g', o', e, -, d0, -, -⟩ := hTr (k - 1) (by omega)
        cases e
        exact d0
      have HB := hid hB
      have HPQ1 : (0 ∉ t[k].p ∧ t[k].p ≠ []) → pathQ t[k].p = (pathL t[k].p, 0) := pathQ_ok
      have HPQ2 : ¬ (0 ∉ t[k].p ∧ t[k].p ≠ []) → pathQ t[k].p = ([], 31) := pathQ_bad
      have HBAD : ¬ OkAt t k hlt → checkL t = 9 := fun h => checkL_bad h
      have HOK : Hid (OkAt t k hlt ↔ ((0 ∉ t[k].p ∧ t[k].p ≠ []) ∧ pathL t[k].p = t[k].p ∧ t[k].p ≠ [47] ∧ (∀ _ : 0 < k, t[k - 1].p < t[k].p) ∧ (t[k].d = true → t[k].x = []) ∧ sumX (t.take (k + 1)) ≤ 65536 ∧ kindL t (aboveL t[k].p) = 2)) := hid Iff.rfl
      obtain ⟨ok, hok⟩ : ∃ ok : Prop, OkAt t k hlt = ok := ⟨_, rfl⟩
      rw [hok] at HBAD HOK
      have HO := hid hok
      have HSM := hid hsm
      generalize hpp : t[k].p = p at *
      generalize hdd : t[k].d = d at *
      generalize hxx : t[k].x = x at *
      obtain ⟨q, hq⟩ : ∃ q, (if h : 0 < k then t[k - 1].p else []) = q := ⟨_, rfl⟩
      have hqk : ∀ h : 0 < k, t[k - 1].p = q := fun h => by rw [← hq, dif_pos h]
      have HX := hid (And.intro hpp (And.intro hdd hxx))
      clear hT hTr hB hok hsm hpp hdd hxx hq
      by_cases h1 : ¬ (0 ∉ p ∧ p ≠ [])
      · have HC : Hid (checkL t = 9) := hid (HBAD fun h => h1 (HOK.out.1 h).1)
        rw [HPQ2 h1] at cP
        clear HPQ1 HPQ2 HBAD HOK h1 cA cK hprev hqk
        go_wp2_with fail
        refine (cP _).mono ?_
        rintro e w1 ⟨rfl, hb1⟩
        have a0 := cell_below hb1 c0; have a1 := cell_below hb1 c1; have a2 := cell_below hb1 c2
        try have a3 := cell_below hb1 pv
        have HB1 := hid (HB.out.trans (hb1.mono HB.out.size))
        clear c0 c1 c2 hb1 cP
        go_wp2
        go_ret
        exact ⟨by rw [HC.out]; rfl, HB1.out⟩
      replace h1 : 0 ∉ p ∧ p ≠ [] := Classical.not_not.1 h1
      rw [HPQ1 h1] at cP
      clear HPQ1 HPQ2
      by_cases h2 : ¬ (pathL p = p)
      · have HC : Hid (checkL t = 9) := hid (HBAD fun h => h2 (HOK.out.1 h).2.1)
        have q2 : (pathL p == p) = false := by simpa using h2
        have q2' : (pathL p != p) = true := by simpa using h2
        clear HBAD HOK h1 h2 cA cK hprev hqk
        go_wp2_with fail
        refine (cP _).mono ?_
        rintro e w1 ⟨rfl, hb1⟩
        have a0 := cell_below hb1 c0; have a1 := cell_below hb1 c1; have a2 := cell_below hb1 c2
        try have a3 := cell_below hb1 pv
        have HB1 := hid (HB.out.trans (hb1.mono HB.out.size))
        clear c0 c1 c2 hb1 cP
        go_wp2
        go_ret
        exact ⟨by rw [HC.out]; rfl, HB1.out⟩
      replace h2 : pathL p = p := Classical.not_not.1 h2
      rw [h2] at cP
      by_cases h3 : p = [47]
      · have HC : Hid (checkL t = 9) := hid (HBAD fun h => (HOK.out.1 h).2.2.1 h3)
        have q3 : (p == [47]) = true := by simpa using h3
        clear HBAD HOK h1 h2 h3 cA cK hprev hqk
        go_wp2_with fail
        refine (cP _).mono ?_
        rintro e w1 ⟨rfl, hb1⟩
        have a0 := cell_below hb1 c0; have a1 := cell_below hb1 c1; have a2 := cell_below hb1 c2
        try have a3 := cell_below hb1 pv
        have HB1 := hid (HB.out.trans (hb1.mono HB.out.size))
        clear c0 c1 c2 hb1 cP
        go_wp2
        go_ret
        exact ⟨by rw [HC.out]; rfl, HB1.out⟩
      have q3 : (p == [47]) = false := by simpa using h3
      have hk0 : (0 < k ∧ ¬ q < p) ∨ (0 < k ∧ q < p) ∨ k = 0 := by
        by_cases h : 0 < k
        · by_cases h' : q < p
          · exact .inr (.inl ⟨h, h'⟩)
          · exact .inl ⟨h, h'⟩
        · exact .inr (.inr (by omega))
      rcases hk0 with ⟨h4, h4'⟩ | hk0
      · have HC : Hid (checkL t = 9) := hid (HBAD fun h => h4' (by have := (HOK.out.1 h).2.2.2.1 h4; rw [hqk h4] at this; exact this))
        have pv := hprev h4
        rw [hqk h4] at pv
        have q4 : Op.bytesLess q p = false := by rw [bytesLess_eq]; simpa using h4'
        obtain ⟨m, rfl⟩ : ∃ m, k = m + 1 := ⟨k - 1, by omega⟩
        simp only [Nat.add_sub_cancel] at pv
        clear HBAD HOK h1 h2 h3 h4 h4' cA cK hprev hqk
        go_wp2_with fail
        refine (cP _).mono ?_
        rintro e w1 ⟨rfl, hb1⟩
        have a0 := cell_below hb1 c0; have a1 := cell_below hb1 c1; have a2 := cell_below hb1 c2
        try have a3 := cell_below hb1 pv
        have HB1 := hid (HB.out.trans (hb1.mono HB.out.size))
        clear c0 c1 c2 hb1 cP
        go_wp2
        go_ret
        exact ⟨by rw [HC.out]; rfl, HB1.out⟩
      have h4 : ∀ _ : 0 < k, t[k - 1].p < p := fun h => by
        rcases hk0 with ⟨_, h'⟩ | rfl
        · rw [hqk h]; exact h'
        · omega
      by_cases h5 : ¬ (d = true → x = [])
      · have HC : Hid (checkL t = 9) := hid (HBAD fun h => h5 (HOK.out.1 h).2.2.2.2.1)
        have hd : d = true := Classical.byContradiction fun hn => h5 fun e => absurd e hn
        have hx : x ≠ [] := fun e => h5 fun _ => e
        subst hd
        have q5 : (x == []) = false := by simpa using hx
        have q5' : x.isEmpty = false := by cases x with | nil => exact absurd rfl hx | cons y r => rfl
        clear HBAD HOK h1 h2 h3 h4 h5 hx cA cK
        rcases hk0 with ⟨h4, h4'⟩ | h0
        · have pv := hprev h4
          rw [hqk h4] at pv
          have q4 : Op.bytesLess q p = true := by rw [bytesLess_eq]; simpa using h4'
          obtain ⟨m, rfl⟩ : ∃ m, k = m + 1 := ⟨k - 1, by omega⟩
          simp only [Nat.add_sub_cancel] at pv
          clear hprev hqk h4 h4'
          go_wp2_with fail
          refine (cP _).mono ?_
          rintro e w1 ⟨rfl, hb1⟩
          have a0 := cell_below hb1 c0; have a1 := cell_below hb1 c1; have a2 := cell_below hb1 c2
          try have a3 := cell_below hb1 pv
          have HB1 := hid (HB.out.trans (hb1.mono HB.out.size))
          clear c0 c1 c2 hb1 cP
          go_wp2
          go_ret
          exact ⟨by rw [HC.out]; rfl, HB1.out⟩
        · subst h0
          simp only [Nat.zero_mul, Nat.add_zero] at c0 c1 c2
          clear hprev hqk
          go_wp2_with fail
          refine (cP _).mono ?_
          rintro e w1 ⟨rfl, hb1⟩
          have a0 := cell_below hb1 c0; have a1 := cell_below hb1 c1; have a2 := cell_below hb1 c2
          try have a3 := cell_below hb1 pv
          have HB1 := hid (HB.out.trans (hb1.mono HB.out.size))
          clear c0 c1 c2 hb1 cP
          go_wp2
          go_ret
          exact ⟨by rw [HC.out]; rfl, HB1.out⟩
      replace h5 : d = true → x = [] := Classical.not_not.1 h5
      have q5 : d = false ∨ (d = true ∧ x = []) := by
        cases d
        · exact .inl rfl
        · exact .inr ⟨rfl, h5 rfl⟩
      by_cases h6 : 65536 < n + x.length
      · have HC : Hid (checkL t = 9) := hid (HBAD fun h => by have := (HOK.out.1 h).2.2.2.2.2.1; have := HSM.out; omega)
        have q6 : (65536 : Int) < (n : Int) + (x.length : Int) := by omega
        have hd : d = false := by
          rcases q5 with h | ⟨_, h⟩
          · exact h
          · rw [h] at h6; simp at h6; omega
        subst hd
        clear HBAD HOK h1 h2 h3 h4 h5 h6 cA cK q5
        rcases hk0 with ⟨h4, h4'⟩ | h0
        · have pv := hprev h4
          rw [hqk h4] at pv
          have q4 : Op.bytesLess q p = true := by rw [bytesLess_eq]; simpa using h4'
          obtain ⟨m, rfl⟩ : ∃ m, k = m + 1 := ⟨k - 1, by omega⟩
          simp only [Nat.add_sub_cancel] at pv
          clear hprev hqk h4 h4'
          go_wp2_with fail
          refine (cP _).mono ?_
          rintro e w1 ⟨rfl, hb1⟩
          have a0 := cell_below hb1 c0; have a1 := cell_below hb1 c1; have a2 := cell_below hb1 c2
          try have a3 := cell_below hb1 pv
          have HB1 := hid (HB.out.trans (hb1.mono HB.out.size))
          clear c0 c1 c2 hb1 cP
          go_wp2
          go_ret
          exact ⟨by rw [HC.out]; rfl, HB1.out⟩
        · subst h0
          simp only [Nat.zero_mul, Nat.add_zero] at c0 c1 c2
          clear hprev hqk
          go_wp2_with fail
          refine (cP _).mono ?_
          rintro e w1 ⟨rfl, hb1⟩
          have a0 := cell_below hb1 c0; have a1 := cell_below hb1 c1; have a2 := cell_below hb1 c2
          try have a3 := cell_below hb1 pv
          have HB1 := hid (HB.out.trans (hb1.mono HB.out.size))
          clear c0 c1 c2 hb1 cP
          go_wp2
          go_ret
          exact ⟨by rw [HC.out]; rfl, HB1.out⟩
      have q6 : decide ((65536 : Int) < (n : Int) + (x.length : Int)) = false := by simp; omega
      by_cases h7 : ¬ (kindL t (aboveL p) = 2)
      · have HC : Hid (checkL t = 9) := hid (HBAD fun h => h7 (HOK.out.1 h).2.2.2.2.2.2)
        have q7 : (kindL t (aboveL p) != 2) = true := by simpa using h7
        have q7' : (kindL t (aboveL p) == 2) = false := by simpa using h7
        generalize kindL t (aboveL p) = K at *
        clear HBAD HOK h1 h2 h3 h4 h5 h6 h7
        rcases hk0 with ⟨h4, h4'⟩ | h0
        · have pv := hprev h4
          rw [hqk h4] at pv
          have q4 : Op.bytesLess q p = true := by rw [bytesLess_eq]; simpa using h4'
          obtain ⟨m, rfl⟩ : ∃ m, k = m + 1 := ⟨k - 1, by omega⟩
          simp only [Nat.add_sub_cancel] at pv
          clear hprev hqk h4 h4'
          rcases q5 with rfl | ⟨rfl, rfl⟩
          all_goals
            go_wp2_with fail
            refine (cP _).mono ?_
            rintro e w1 ⟨rfl, hb1⟩
            have a0 := cell_below hb1 c0; have a1 := cell_below hb1 c1; have a2 := cell_below hb1 c2
            try have a3 := cell_below hb1 pv
            have HB1 := hid hb1
            clear c0 c1 c2 hb1 cP
            go_wp2_with fail
            refine (cA _).mono ?_
            rintro e w2 ⟨rfl, hb2⟩
            have hb12 := HB1.out.trans (hb2.mono HB1.out.size)
            have HB2 := hid hb12
            have cK2 := cK w2 hb12
            clear hb2 hb12 cK cA a0 a1 a2
            go_wp2_with (go_at_call 37; refine cK2.mono ?_; rintro e w3 ⟨rfl, rfl⟩)
            go_ret
            exact ⟨by rw [HC.out]; rfl, HB.out.trans (HB2.out.mono HB.out.size)⟩
        · subst h0
          simp only [Nat.zero_mul, Nat.add_zero] at c0 c1 c2
          clear hprev hqk
          rcases q5 with rfl | ⟨rfl, rfl⟩
          all_goals
            go_wp2_with fail
            refine (cP _).mono ?_
            rintro e w1 ⟨rfl, hb1⟩
            have a0 := cell_below hb1 c0; have a1 := cell_below hb1 c1; have a2 := cell_below hb1 c2
            try have a3 := cell_below hb1 pv
            have HB1 := hid hb1
            clear c0 c1 c2 hb1 cP
            go_wp2_with fail
            refine (cA _).mono ?_
            rintro e w2 ⟨rfl, hb2⟩
            have hb12 := HB1.out.trans (hb2.mono HB1.out.size)
            have HB2 := hid hb12
            have cK2 := cK w2 hb12
            clear hb2 hb12 cK cA a0 a1 a2
            go_wp2_with (go_at_call 37; refine cK2.mono ?_; rintro e w3 ⟨rfl, rfl⟩)
            go_ret
            exact ⟨by rw [HC.out]; rfl, HB.out.trans (HB2.out.mono HB.out.size)⟩
      replace h7 : kindL t (aboveL p) = 2 := Classical.not_not.1 h7
      have HOKK : Hid (∀ j (h : j < t.length), j < k + 1 → OkAt t j h) := hid (fun j hj hjk => by
        by_cases e : j = k
        · subst e
          rw [HO.out]
          exact HOK.out.2 ⟨h1, h2, h3, h4, h5, by have := HSM.out; omega, h7⟩
        · exact HZ.out j hj (by omega))
      have HNN : Hid (n + x.length = sumX (t.take (k + 1))) := hid HSM.out.symm
      rw [h7] at cK
      have hn6 : n + x.length ≤ 65536 := by omega
      clear HBAD HOK h1 h2 h3 h4 h5 h6 h7
      rcases hk0 with ⟨h4, h4'⟩ | h0
      · have pv := hprev h4
        rw [hqk h4] at pv
        have q4 : Op.bytesLess q p = true := by rw [bytesLess_eq]; simpa using h4'
        obtain ⟨m, rfl⟩ : ∃ m, k = m + 1 := ⟨k - 1, by omega⟩
        simp only [Nat.add_sub_cancel] at pv
        clear hprev hqk h4 h4'
        rcases q5 with rfl | ⟨rfl, rfl⟩
        all_goals
          go_wp2_with fail
          refine (cP _).mono ?_
          rintro e w1 ⟨rfl, hb1⟩
          have a0 := cell_below hb1 c0; have a1 := cell_below hb1 c1; have a2 := cell_below hb1 c2
          try have a3 := cell_below hb1 pv
          have HB1 := hid hb1
          clear c0 c1 c2 hb1 cP
          go_wp2_with fail
          refine (cA _).mono ?_
          rintro e w2 ⟨rfl, hb2⟩
          have hb12 := HB1.out.trans (hb2.mono HB1.out.size)
          have HB2 := hid hb12
          have cK2 := cK w2 hb12
          clear hb2 hb12 cK cA a0 a1 a2
          go_wp2_with (go_at_call 37; refine cK2.mono ?_; rintro e w3 ⟨rfl, rfl⟩)
          go_roundw
          case rel => exact ⟨m + 1 + 1, n + _, by omega, by go_num, by go_num, hn6, HNN, HOKK, HB.out.trans (HB2.out.mono HB.out.size)⟩
          case measure => simp [intOf]; omega
      · subst h0
        simp only [Nat.zero_mul, Nat.add_zero] at c0 c1 c2
        clear hprev hqk
        rcases q5 with rfl | ⟨rfl, rfl⟩
        all_goals
          go_wp2_with fail
          refine (cP _).mono ?_
          rintro e w1 ⟨rfl, hb1⟩
          have a0 := cell_below hb1 c0; have a1 := cell_below hb1 c1; have a2 := cell_below hb1 c2
          try have a3 := cell_below hb1 pv
          have HB1 := hid hb1
          clear c0 c1 c2 hb1 cP
          go_wp2_with fail
          refine (cA _).mono ?_
          rintro e w2 ⟨rfl, hb2⟩
          have hb12 := HB1.out.trans (hb2.mono HB1.out.size)
          have HB2 := hid hb12
          have cK2 := cK w2 hb12
          clear hb2 hb12 cK cA a0 a1 a2
          go_wp2_with (go_at_call 37; refine cK2.mono ?_; rintro e w3 ⟨rfl, rfl⟩)
          go_roundw
          case rel => exact ⟨0 + 1, n + _, by omega, by go_num, by go_num, hn6, HNN, HOKK, HB.out.trans (HB2.out.mono HB.out.size)⟩
          case measure => simp [intOf]; omega
    · obtain rfl : k = t.length := by omega
      have HC : Hid (checkL t = 0) := hid (by unfold checkL; rw [if_pos ⟨HL.out, fun j hj => HZ.out j hj hj⟩])
      clear HZ HN hT hz
      go_wp2
      go_ret
      exact ⟨by rw [HC.out]; rfl, hB⟩
end Go.Proofs.YtnedjpopadkdeaaDoor
