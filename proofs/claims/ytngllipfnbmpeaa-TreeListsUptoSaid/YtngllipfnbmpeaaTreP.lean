
/- Contracts of the reference's fits, Put, Mkdir, Add. Conditions: sizes. -/
import Derived.Test.YtngllipfnbmpeaaTreW
namespace Go.Proofs.Ytngllipfnbmpeaa
open Go.RowKit
open Go.Lib (hid)

theorem goneW_mem (n : ND) (t : List ND) : ∀ k, k ≤ t.length → ∀ y ∈ (goneW n t k).1, y = n ∨ y ∈ t
  | 0, _, y, h => by simp [goneW] at h
  | k + 1, hk, y, h => by
    have ih := goneW_mem n t k (by omega) y
    have hx : t[k] ∈ t := List.getElem_mem _
    rw [goneW_succ n t k (by omega)] at h
    unfold stepW at h
    split at h
    · split at h
      · rcases List.mem_append.1 h with h | h
        · exact ih h
        · exact .inl (by simpa using h)
      · rcases List.mem_append.1 h with h | h
        · rcases List.mem_append.1 h with h | h
          · exact ih h
          · exact .inl (by simpa using h)
        · exact .inr (by rw [List.mem_singleton.1 h]; exact hx)
    · split at h
      · exact ih h
      · rcases List.mem_append.1 h with h | h
        · exact ih h
        · exact .inr (by rw [List.mem_singleton.1 h]; exact hx)
theorem withL_mem {t : List ND} {n y : ND} (h : y ∈ withL t n) : y = n ∨ y ∈ t := by
  rcases List.mem_append.1 h with h | h
  · exact goneW_mem n t t.length (Nat.le_refl _) y h
  · split at h
    · cases h
    · exact .inl (by simpa using h)
theorem withL_len (t : List ND) (n : ND) : (withL t n).length ≤ 2 * t.length + 1 := by
  have h := goneW_len n t t.length (Nat.le_refl _)
  unfold withL
  rw [List.length_append]
  split <;> simp <;> omega
/-- A tree, if it is not too great. -/
def fitsQ (z : List ND) : List ND × Int := if z.length ≤ 256 ∧ sumX z ≤ 65536 then (z, 0) else ([], 17)
theorem sumX_bound (z : List ND) (hz : ∀ n ∈ z, n.x.length ≤ 549755813888) : ∀ k, k ≤ z.length → sumX (z.take k) ≤ k * 549755813888
  | 0, _ => by simp [sumX]
  | k + 1, h => by
    have ih := sumX_bound z hz k (by omega)
    have h2 := hz _ (List.getElem_mem (show k < z.length by omega))
    rw [sumX_take z k (by omega)]
    omega

set_option maxHeartbeats 2000000 in
theorem rfits_any (A : Option Addr) (c : Nat) (z : List ND) (w : World) (hT : NodesP w (fun _ => True) A z) (hl : z.length ≤ 513) (hz : ∀ n ∈ z, n.x.length ≤ 549755813888) :
    Calls Try.prog 44 #[.slice A z.length c] w fun e w' => w = w' ∧ (((z.length ≤ 256 ∧ sumX z ≤ 65536) ∧ e = .returned (.tuple #[.slice A z.length c, .int .i64 0])) ∨ (¬ (z.length ≤ 256 ∧ sumX z ≤ 65536) ∧ e = .returned (.tuple #[.slice none 0 0, .int .i64 17]))) := by
  go_enter Try.func44, Try.ntmps44
  go_wp2
  go_loop [4, 5] (fun s i => ∃ k m : Nat, k ≤ z.length ∧ i = .int .i64 k ∧ s = .int .i64 m ∧ m ≤ k * 549755813888 ∧ Hid (m = sumX (z.take k))) (fun _ i => z.length - (intOf i).toNat)
  case atStart => exact ⟨0, 0, Nat.zero_le _, rfl, rfl, Nat.zero_le _, hid rfl⟩
  case round =>
    obtain ⟨k, m, hk, rfl, rfl, hm, HM⟩ := hrel
    by_cases hlt : k < z.length
    · obtain ⟨g, o, rfl, -, -, -, c2⟩ := hT k hlt
      have hs := sumX_take z k hlt
      rw [← HM.out] at hs
      have hb := hz _ (List.getElem_mem hlt)
      have HS := hid hs
      generalize z[k].x = x at *
      clear hs hT hz
      go_wp2
      go_round
      case rel => exact ⟨k + 1, m + x.length, by omega, by go_num, by go_num, by omega, hid HS.out.symm⟩
      case measure => simp [intOf]; omega
    · obtain rfl : k = z.length := by omega
      have HE : Hid (sumX z = m) := hid (by rw [HM.out, List.take_of_length_le (Nat.le_refl _)])
      clear HM hT hz
      by_cases h1 : z.length ≤ 256
      · have q1 : decide ((256 : Int) < (z.length : Int)) = false := by simp; omega
        by_cases h2 : m ≤ 65536
        · have q2 : decide ((65536 : Int) < (m : Int)) = false := by simp; omega
          have HH : Hid (z.length ≤ 256 ∧ sumX z ≤ 65536) := hid ⟨h1, by rw [HE.out]; exact h2⟩
          clear h1 h2 hm
          go_wp2
          go_ret2
          exact ⟨rfl, .inl ⟨HH.out, rfl⟩⟩
        · have q2 : (65536 : Int) < (m : Int) := by omega
          have HH : Hid (¬ (z.length ≤ 256 ∧ sumX z ≤ 65536)) := hid (by rw [HE.out]; exact fun h => h2 h.2)
          clear h1 h2 hm
          go_wp2
          go_ret2
          exact ⟨rfl, .inr ⟨fun h => by have := HH.out; omega, rfl⟩⟩
      · have q1 : (256 : Int) < (z.length : Int) := by omega
        have HH : Hid (¬ (z.length ≤ 256 ∧ sumX z ≤ 65536)) := hid (fun h => h1 h.1)
        clear h1 hm
        go_wp2
        go_ret2
        exact ⟨rfl, .inr ⟨fun h => by have := HH.out; omega, rfl⟩⟩

/-- with and fits at once. -/
theorem fitsQ_cases (z : List ND) : ((z.length ≤ 256 ∧ sumX z ≤ 65536) ∧ fitsQ z = (z, 0)) ∨ (¬ (z.length ≤ 256 ∧ sumX z ≤ 65536) ∧ fitsQ z = ([], 17)) := by
  unfold fitsQ
  by_cases h : z.length ≤ 256 ∧ sumX z ≤ 65536
  · rw [if_pos h]; exact .inl ⟨h, rfl⟩
  · rw [if_neg h]; exact .inr ⟨h, rfl⟩
/-- A tree and a number as a call tells them, in memory of its own. -/
def TellsN (w : World) (q : List ND × Int) (e : Ending) (w' : World) : Prop := ∃ a c, e = .returned (.tuple #[.slice a q.1.length c, .int .i64 q.2]) ∧ OwnN w' w.heap.size a c q.1 ∧ Below w.heap.size w w'
theorem tells_nil {w w' : World} {f : Int} {q : List ND × Int} (hq : q = ([], f)) (hb : Below w.heap.size w w') : TellsN w q (.returned (.tuple #[.slice none 0 0, .int .i64 f])) w' := by
  subst hq
  exact ⟨none, 0, rfl, World.ownsRow_nil _ _ _ _, hb⟩
noncomputable def putQ (t : List ND) (p x : List UInt8) : List ND × Int :=
  if (askQ t p).2 ≠ 0 then ([], (askQ t p).2) else if kindL t (pathL p) = 2 then ([], 15) else if roomL t (pathL p) ≠ 0 then ([], roomL t (pathL p)) else fitsQ (withL t ⟨pathL p, false, x⟩)
noncomputable def mkQ (t : List ND) (p : List UInt8) : List ND × Int :=
  if (askQ t p).2 ≠ 0 then ([], (askQ t p).2) else if kindL t (pathL p) ≠ 0 then ([], 14) else if roomL t (pathL p) ≠ 0 then ([], roomL t (pathL p)) else fitsQ (withL t ⟨pathL p, true, []⟩)

set_option maxHeartbeats 4000000 in
theorem rPut_any (A : Option Addr) (c : Nat) (t : List ND) (p x : List UInt8) (w : World) (hT : NodesP w (fun _ => True) A t) (hl : t.length ≤ 1099511627776) (hz : SizeT t) (hp : p.length ≤ 274877906944) (hx : x.length ≤ 549755813888) :
    Calls Try.prog 19 #[.slice A t.length c, encS p, encS x] w fun e w' => TellsN w (putQ t p x) e w' := by
  have cA := rask_any A c t p w hT hl hz hp
  have hpl := pathL_len p
  have cK := fun W (hb : Below w.heap.size w W) => rkind_any A c t (pathL p) W (hT.below hb) hl
  have cR := fun W (hb : Below w.heap.size w W) => rroom_any A c t (pathL p) W (hT.below hb) hl (by omega)
  rcases askQ_cases t p with ⟨ha, h0, -⟩ | ⟨ha, -, -⟩ | ⟨ha, -⟩
  · have hq : putQ t p x = if kindL t (pathL p) = 2 then ([], 15) else if roomL t (pathL p) ≠ 0 then ([], roomL t (pathL p)) else fitsQ (withL t ⟨pathL p, false, x⟩) := by unfold putQ; rw [ha]; simp
    rw [ha] at cA
    by_cases hk : kindL t (pathL p) = 2
    · have HQ : Hid (putQ t p x = ([], 15)) := hid (by rw [hq, if_pos hk])
      rw [hk] at cK
      clear hT hz ha h0 hk cR hq hpl
      go_enter Try.func19, Try.ntmps19
      go_wp2_with fail
      refine cA.mono ?_
      rintro e w1 ⟨rfl, hb1⟩
      have HB := hid hb1
      have cK1 := cK w1 hb1
      clear hb1 cK cA
      go_wp2_with (go_at_call 42; refine cK1.mono ?_; rintro e w3 ⟨rfl, rfl⟩)
      go_ret2
      exact tells_nil HQ.out HB.out
    · have q1 : (kindL t (pathL p) == 2) = false := by simpa using hk
      by_cases hr : roomL t (pathL p) = 0
      · have HQ : Hid (putQ t p x = fitsQ (withL t ⟨pathL p, false, x⟩)) := hid (by rw [hq, if_neg hk, if_neg (by simpa using hr)])
        rw [hr] at cR
        have cW := fun W (hb : Below w.heap.size w W) => rwith_any A c t ⟨pathL p, false, x⟩ W (hT.below hb) h0.1
        have hzl := withL_len t ⟨pathL p, false, x⟩
        have h256 := h0.1
        have hzx : ∀ n ∈ withL t ⟨pathL p, false, x⟩, n.x.length ≤ 549755813888 := fun n hn => by
          rcases withL_mem hn with rfl | h
          · exact hx
          · have := (hz n h).2; omega
        generalize withL t ⟨pathL p, false, x⟩ = z at *
        have cF := fun (a : Option Addr) (c' : Nat) (W : World) (h : NodesP W (fun _ => True) a z) => rfits_any a c' z W h (by omega) hzx
        have HK := hid q1
        generalize kindL t (pathL p) = K at *
        clear hT hz ha h0 hk hq hr hzx hzl h256 hpl
        go_enter Try.func19, Try.ntmps19
        go_wp2_with fail
        refine cA.mono ?_
        rintro e w1 ⟨rfl, hb1⟩
        have HB := hid hb1
        have cK1 := cK w1 hb1
        have cR1 := cR w1 hb1
        clear hb1 cK cA cR
        go_wp2_with (go_at_call 42; refine cK1.mono ?_; rintro e w3 ⟨rfl, rfl⟩)
        refine cR1.mono ?_
        rintro e w2 ⟨rfl, hb2⟩
        have HB2 := hid (HB.out.trans (hb2.mono HB.out.size))
        have cW2 := cW w2 HB2.out
        clear hb2 cR1 cW cK1
        go_wp2_with fail
        refine cW2.mono ?_
        rintro e w3 ⟨a', c', rfl, hO, hb3⟩
        have HB3 := hid (HB2.out.trans (hb3.mono HB2.out.size))
        have HO := hid (own_down hO HB2.out.size : World.ownsRow w3 w.heap.size 53 3 (.slice a' z.length c') z.length (z.flatMap cellsN))
        have cF3 := cF a' c' w3 (OwnN.nodes hO |>.any)
        clear hb3 cW2 cF hO
        go_wp2_with fail
        refine cF3.mono ?_
        rintro e w4 ⟨rfl, hF⟩
        rcases hF with ⟨hf, rfl⟩ | ⟨hf, rfl⟩
        · have HF := hid hf
          clear hf cF3
          go_wp2_with fail
          go_ret2
          rw [HQ.out, show fitsQ z = (z, 0) from if_pos HF.out]
          exact ⟨a', c', rfl, HO.out, HB3.out⟩
        · have HF := hid hf
          clear hf cF3
          go_wp2_with fail
          go_ret2
          exact tells_nil (by rw [HQ.out]; exact if_neg HF.out) HB3.out
      · have HQ : Hid (putQ t p x = ([], roomL t (pathL p))) := hid (by rw [hq, if_neg hk, if_pos hr])
        have q2 : (roomL t (pathL p) == 0) = false := by simpa using hr
        have q2' : (roomL t (pathL p) != 0) = true := by simpa using hr
        generalize roomL t (pathL p) = R at *
        generalize kindL t (pathL p) = K at *
        clear hT hz ha h0 hk hq hr hpl
        go_enter Try.func19, Try.ntmps19
        go_wp2_with fail
        refine cA.mono ?_
        rintro e w1 ⟨rfl, hb1⟩
        have HB := hid hb1
        have cK1 := cK w1 hb1
        have cR1 := cR w1 hb1
        clear hb1 cK cA cR
        go_wp2_with (go_at_call 42; refine cK1.mono ?_; rintro e w3 ⟨rfl, rfl⟩)
        refine cR1.mono ?_
        rintro e w2 ⟨rfl, hb2⟩
        have HB2 := hid (HB.out.trans (hb2.mono HB.out.size))
        clear hb2 cR1 cK1
        go_wp2_with fail
        go_ret2
        exact tells_nil HQ.out HB2.out
  all_goals
    have HQ : Hid (putQ t p x = ([], _)) := hid (by unfold putQ; rw [ha]; exact if_pos (by decide))
    rw [ha] at cA
    clear hT hz ha cK cR hpl
    go_enter Try.func19, Try.ntmps19
    go_wp2_with fail
    refine cA.mono ?_
    rintro e w1 ⟨rfl, hb1⟩
    have HB := hid hb1
    clear hb1 cA
    go_wp2_with fail
    go_ret2
    exact tells_nil HQ.out HB.out

noncomputable def addQ (t : List ND) (p x : List UInt8) : List ND × Int := if (getQ t p).2 ≠ 0 ∧ (getQ t p).2 ≠ 71 then ([], (getQ t p).2) else putQ t p ((getQ t p).1 ++ x)
theorem sumX_mem {t : List ND} {n : ND} (h : n ∈ t) : n.x.length ≤ sumX t := by
  induction t with
  | nil => cases h
  | cons m r ih =>
    have e : sumX (m :: r) = m.x.length + sumX r := by simp [sumX]
    rcases List.mem_cons.1 h with rfl | h
    · omega
    · have := ih h; omega
theorem OkT.sum {t : List ND} (h : OkT t) : sumX t ≤ 65536 := by
  cases ht : t.length with
  | zero => rw [List.length_eq_zero_iff.1 ht]; exact Nat.zero_le _
  | succ m =>
    have h1 := (h.2 m (by omega)).2.2.2.2.2.1
    rwa [← ht, List.take_of_length_le (Nat.le_refl _)] at h1
theorem getQ_len (t : List ND) (p : List UInt8) : (getQ t p).1.length ≤ 65536 := by
  rcases askQ_cases t p with ⟨ha, h0, -⟩ | ⟨ha, -, -⟩ | ⟨ha, -⟩
  · have hs := h0.sum
    unfold getQ
    rw [ha, if_neg (by simp)]
    split
    · exact Nat.zero_le _
    · split
      · exact Nat.zero_le _
      · rcases find_cases t (pathL p) with ⟨i, hi, -, f2, -⟩ | ⟨-, f2, -⟩
        · rw [f2]
          have := sumX_mem (List.getElem_mem hi)
          show t[i].x.length ≤ _
          omega
        · rw [f2]; exact Nat.zero_le _
  · rw [getQ_ask ha (by decide)]; exact Nat.zero_le _
  · rw [getQ_ask ha (by decide)]; exact Nat.zero_le _

end Go.Proofs.Ytngllipfnbmpeaa
