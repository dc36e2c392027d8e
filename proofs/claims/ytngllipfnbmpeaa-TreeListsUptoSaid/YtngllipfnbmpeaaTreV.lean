
/- Contracts of the reference's under, Remove. Conditions: sizes. -/
import Derived.Test.YtngllipfnbmpeaaTreP
namespace Go.Proofs.Ytngllipfnbmpeaa
open Go.RowKit
open Go.Lib (hid)

theorem head_text (l : List UInt8) (k : Nat) (hk : k ≤ l.length) (W : World) :
    (Instr.slice 9 (.string ⟨l.toArray⟩) none (some (.int .i64 (k : Int))) none).run Try.prog W = .ok (.string ⟨(l.take k).toArray⟩) W := by
  have hz := mk_size l
  rw [run_slice_string_h W 9 _ Try.underlying9 .i64 (k : Int) (by omega) (by rw [hz]; omega)]
  simp [ByteArray.extract_mk]
/-- Is a path beneath another one, or it? -/
def underB (p top : List UInt8) : Bool := decide (p = top ∨ (top ++ [47]) <+: p)
theorem under_iff (p top : List UInt8) : (top ++ [47]) <+: p ↔ ∃ h : top.length < p.length, p.take top.length = top ∧ p[top.length] = 47 := by
  constructor
  · rintro ⟨r, rfl⟩
    refine ⟨by simp, by simp, by simp⟩
  · rintro ⟨h, h1, h2⟩
    refine ⟨p.drop (top.length + 1), ?_⟩
    rw [← h2]
    conv => rhs; rw [← List.take_append_drop (top.length + 1) p, List.take_succ_eq_append_getElem h, h1]

set_option maxHeartbeats 2000000 in
theorem runder_any (p top : List UInt8) (w : World) :
    Calls Try.prog 46 #[encS p, encS top] w fun e w' => e = .returned (.bool (underB p top)) ∧ w = w' := by
  have sp := mk_size p
  have st := mk_size top
  by_cases h0 : p = top
  · have HU : Hid (underB p top = true) := hid (by unfold underB; simp [h0])
    have q0 : (p == top) = true := by simpa using h0
    clear h0
    go_enter Try.func46, Try.ntmps46
    go_wp2
    go_ret
    exact ⟨by rw [HU.out]; rfl, rfl⟩
  have q0 : (p == top) = false := by simpa using h0
  by_cases h1 : top.length < p.length
  · have hs := fun W => head_text p top.length (by omega) W
    by_cases h2 : p.take top.length = top
    · have q2 : (p.take top.length == top) = true := by simpa using h2
      have hg := mk_get p top.length h1
      by_cases h3 : p[top.length] = 47
      · have HU : Hid (underB p top = true) := hid (by unfold underB; exact decide_eq_true (.inr ((under_iff p top).2 ⟨h1, h2, h3⟩)))
        have q3 : ((((⟨p.toArray⟩ : ByteArray)[top.length]'(by rw [mk_size]; exact h1)).toNat : Int) == 47) = true := by rw [hg, h3]; rfl
        clear h0 h2 h3 hg
        go_enter Try.func46, Try.ntmps46
        go_wp2
        go_ret
        exact ⟨by rw [HU.out]; rfl, rfl⟩
      · have HU : Hid (underB p top = false) := hid (by unfold underB; exact decide_eq_false (by rintro (h | h); exact h0 h; exact h3 ((under_iff p top).1 h).2.2))
        have q3 : ((((⟨p.toArray⟩ : ByteArray)[top.length]'(by rw [mk_size]; exact h1)).toNat : Int) == 47) = false := by rw [hg]; exact u8_ne (n := 47) h3
        clear h0 h2 h3 hg
        go_enter Try.func46, Try.ntmps46
        go_wp2
        go_ret
        exact ⟨by rw [HU.out]; rfl, rfl⟩
    · have q2 : (p.take top.length == top) = false := by simpa using h2
      have HU : Hid (underB p top = false) := hid (by unfold underB; exact decide_eq_false (by rintro (h | h); exact h0 h; exact h2 ((under_iff p top).1 h).2.1))
      clear h0 h2
      go_enter Try.func46, Try.ntmps46
      go_wp2
      go_ret
      exact ⟨by rw [HU.out]; rfl, rfl⟩
  · have HU : Hid (underB p top = false) := hid (by unfold underB; exact decide_eq_false (by rintro (h | h); exact h0 h; exact h1 ((under_iff p top).1 h).1))
    clear h0
    go_enter Try.func46, Try.ntmps46
    go_wp2
    go_ret
    exact ⟨by rw [HU.out]; rfl, rfl⟩

/-- What stays without a path and all beneath it. -/
def outL (t : List ND) (p : List UInt8) : List ND := t.filter fun n => !underB n.p p
theorem outL_succ (t : List ND) (p : List UInt8) (k : Nat) (h : k < t.length) : outL (t.take (k + 1)) p = outL (t.take k) p ++ if underB t[k].p p then [] else [t[k]] := by
  unfold outL
  rw [List.take_succ_eq_append_getElem h, List.filter_append]
  congr 1
  cases hb : underB t[k].p p <;> simp [hb]
noncomputable def remQ (t : List ND) (p : List UInt8) (all : Bool) : List ND × Int :=
  if (askQ t p).2 ≠ 0 then ([], (askQ t p).2) else if kindL t (pathL p) = 0 then ([], 71) else if pathL p = [47] ∨ kindL t (pathL p) = 2 ∧ all = false then ([], 15) else (outL t (pathL p), 0)

set_option maxRecDepth 100000 in
set_option maxHeartbeats 4000000 in
theorem rRemove_any (A : Option Addr) (c : Nat) (t : List ND) (p : List UInt8) (all : Bool) (w : World) (hT : NodesP w (fun _ => True) A t) (hl : t.length ≤ 1099511627776) (hz : SizeT t) (hp : p.length ≤ 274877906944) :
    Calls Try.prog 20 #[.slice A t.length c, encS p, .bool all] w fun e w' => TellsN w (remQ t p all) e w' := by
  have cA := rask_any A c t p w hT hl hz hp
  have hpl := pathL_len p
  have cK := fun W (hb : Below w.heap.size w W) => rkind_any A c t (pathL p) W (hT.below hb) hl
  rcases askQ_cases t p with ⟨ha, h0, -⟩ | ⟨ha, -, -⟩ | ⟨ha, -⟩
  · have hq : remQ t p all = if kindL t (pathL p) = 0 then ([], 71) else if pathL p = [47] ∨ kindL t (pathL p) = 2 ∧ all = false then ([], 15) else (outL t (pathL p), 0) := by unfold remQ; rw [ha]; simp
    rw [ha] at cA
    have h256 := h0.1
    by_cases hk : kindL t (pathL p) = 0
    · have HQ : Hid (remQ t p all = ([], 71)) := hid (by rw [hq, if_pos hk])
      rw [hk] at cK
      clear hT hz ha h0 hk hq hpl
      go_enter Try.func20, Try.ntmps20
      go_wp2_with fail
      refine cA.mono ?_
      rintro e w1 ⟨rfl, hb1⟩
      have HB := hid hb1
      have cK1 := cK w1 hb1
      clear hb1 cK cA
      go_wp2_with (go_at_call 42; refine cK1.mono ?_; rintro e w3 ⟨rfl, rfl⟩)
      go_ret2
      exact tells_nil HQ.out HB.out
    · rw [if_neg hk] at hq
      have q1 : (kindL t (pathL p) == 0) = false := by simpa using hk
      by_cases hd : pathL p = [47] ∨ kindL t (pathL p) = 2 ∧ all = false
      · have HQ : Hid (remQ t p all = ([], 15)) := hid (by rw [hq, if_pos hd])
        have q2 : (pathL p == [47]) = true ∨ ((pathL p == [47]) = false ∧ kindL t (pathL p) = 2 ∧ all = false) := by
          by_cases h47 : pathL p = [47]
          · exact .inl (by simpa using h47)
          · exact .inr ⟨by simpa using h47, hd.resolve_left h47⟩
        generalize kindL t (pathL p) = K at *
        clear hT hz ha h0 hk hq hpl hd
        rcases q2 with q2 | ⟨q2, rfl, rfl⟩
        all_goals
          go_enter Try.func20, Try.ntmps20
          go_wp2_with fail
          refine cA.mono ?_
          rintro e w1 ⟨rfl, hb1⟩
          have HB := hid hb1
          have cK1 := cK w1 hb1
          clear hb1 cK cA
          go_wp2_with (go_at_call 42; refine cK1.mono ?_; rintro e w3 ⟨rfl, rfl⟩)
          go_ret2
          exact tells_nil HQ.out HB.out
      · have HQ : Hid (remQ t p all = (outL t (pathL p), 0)) := hid (by rw [hq, if_neg hd])
        have q2 : (pathL p == [47]) = false := by simpa using fun h => hd (.inl h)
        have q3 : (kindL t (pathL p) == 2) = false ∨ ((kindL t (pathL p) == 2) = true ∧ all = true) := by
          by_cases h2 : kindL t (pathL p) = 2
          · refine .inr ⟨by simpa using h2, ?_⟩
            cases all
            · exact absurd (.inr ⟨h2, rfl⟩) hd
            · rfl
          · exact .inl (by simpa using h2)
        generalize kindL t (pathL p) = K at *
        generalize pathL p = P at *
        clear ha h0 hk hq hd
        obtain ⟨i0, hi, hz0, hz1, hz2⟩ := info_parts info_node
        rcases q3 with q3 | ⟨q3, rfl⟩
        all_goals
          go_enter Try.func20, Try.ntmps20
          go_wp2_with fail
          refine cA.mono ?_
          rintro e w1 ⟨rfl, hb1⟩
          have HB := hid hb1
          have cK1 := cK w1 hb1
          have hT1 := hT.below hb1
          clear hb1 cK cA hT
          go_wp2_with (go_at_call 42; refine cK1.mono ?_; rintro e w3 ⟨rfl, rfl⟩)
          clear q1 q2 q3 cK1
          go_loopw [11, 12] (fun v i wr => ∃ (k : Nat) (ys : List ND) (a : Option Addr) (c' : Nat), k ≤ t.length ∧ i = .int .i64 k ∧ v = .slice a ys.length c' ∧ Hid (ys = outL (t.take k) P) ∧ OwnN wr w1.heap.size a c' ys ∧ Below w1.heap.size w1 wr) (fun _ i _ => t.length - (intOf i).toNat)
          case atStart => exact ⟨0, [], none, 0, Nat.zero_le _, rfl, rfl, hid rfl, World.ownsRow_nil _ _ _ _, Below.refl _ _⟩
          case round =>
            obtain ⟨k, ys, a, c', hk, rfl, rfl, HG, hR, hB⟩ := hrel
            have hyl : ys.length ≤ k := by
              rw [HG.out]
              exact Nat.le_trans (List.length_filter_le _ _) (List.length_take_le _ _)
            have hs0 := hB.size
            by_cases hlt : k < t.length
            · have h1 := hT1.below hB
              obtain ⟨gt, ot, rfl, -, a0, a1, a2⟩ := h1 k hlt
              have hS := outL_succ t P k hlt
              rw [← HG.out] at hS
              obtain ⟨hp1, hp2⟩ := hz _ (List.getElem_mem hlt)
              obtain ⟨x, hx⟩ : ∃ x, t[k] = x := ⟨_, rfl⟩
              rw [hx] at a0 a1 a2 hS hp1
              have cU := runder_any x.p P wr
              have HB1 := hid hB
              have hR : wr.ownsRow w1.heap.size 53 3 (.slice a ys.length c') ys.length (ys.flatMap cellsN) := hR
              clear h1 hx hB HG hT1 hz hp2
              cases hu : underB x.p P
              · rw [hu] at hS cU
                have HS : Hid (ys ++ [x] = outL (t.take (k + 1)) P) := hid (by rw [hS]; rfl)
                clear hS hu
                go_wp2_with fail
                refine cU.mono ?_
                rintro e w2 ⟨rfl, rfl⟩
                clear cU
                go_wp2_with (at_builtin; refine wpList_append_own _ rfl _ _ 22 rfl w1.heap.size 53 i0 _ 3 40 Try.underlying22 hi hz0 hz1 hz2 rfl (by decide) _ _ _ rfl (World.ownsRow.alloc (w := wr) hR _) ⟨wr.heap.size, 0, none⟩ 1 1 (cellsN x) rfl rfl ?c1 ?c2 ?c3 ?c4 ?c5 ?_)
                case c1 => first | exact World.news_of_block (heap_alloc_new wr _) | exact fun j u h => h
                case c2 => simp [cellsN, Value.oneCell']
                case c3 => unfold maxLen; omega
                case c4 => omega
                case c5 => first | omega | (simp; omega)
                intro v8 w8 hown8 hg8 _
                obtain ⟨g8, c8, rfl⟩ := ownsRow_succ hown8
                have hB8 : Below w1.heap.size w1 w8 := (HB1.out.alloc hs0 _).grown hg8 (by simp; omega) (fun j e => (hR.lt j e).1)
                have HF8 := hid (And.intro (OwnN.next hown8) hB8)
                clear hB8 hown8 hg8 hR
                go_wp2_with fail
                go_roundw
                case rel => exact ⟨k + 1, ys ++ [x], some ⟨g8, 0, none⟩, c8, by omega, by go_num, by simp, HS, HF8.out.1, HF8.out.2⟩
                case measure => simp [intOf]; omega
              · rw [hu] at hS cU
                have HS : Hid (ys = outL (t.take (k + 1)) P) := hid (by rw [hS]; simp)
                clear hS hu
                go_wp2_with fail
                refine cU.mono ?_
                rintro e w2 ⟨rfl, rfl⟩
                clear cU
                go_wp2_with fail
                go_roundw
                case rel => exact ⟨k + 1, ys, a, c', by omega, by go_num, rfl, HS, hR, HB1.out⟩
                case measure => simp [intOf]; omega
            · obtain rfl : k = t.length := by omega
              have HE : Hid (ys = outL t P) := hid (by rw [HG.out, List.take_of_length_le (Nat.le_refl _)])
              clear HG hz hT1
              go_wp2_with fail
              go_ret2
              rw [HQ.out, ← HE.out]
              exact ⟨a, c', rfl, own_down hR HB.out.size, HB.out.trans (hB.mono HB.out.size)⟩
  all_goals
    have HQ : Hid (remQ t p all = ([], _)) := hid (by unfold remQ; rw [ha]; exact if_pos (by decide))
    rw [ha] at cA
    clear hT hz ha cK hpl
    go_enter Try.func20, Try.ntmps20
    go_wp2_with fail
    refine cA.mono ?_
    rintro e w1 ⟨rfl, hb1⟩
    have HB := hid hb1
    clear hb1 cA
    go_wp2_with fail
    go_ret2
    exact tells_nil HQ.out HB.out
end Go.Proofs.Ytngllipfnbmpeaa
