/- Contracts of cowrieplain's CopyVars (the variables, in memory of their own) and SpoilVars (nothing has turned but the rows that it is given). Conditions: sizes. -/
import Derived.Test.YthgmilllinbcjaaGreatDoorZPlV
import Derived.RangeFuncBox
namespace Go.Proofs.YthgmilllinbcjaaGreatDoor
open Go.RowKit
open Go.Lib (hid)

/-- Variables of one's own, from N on. -/
def OwnV (w : World) (N : Nat) (A : Option Addr) (c : Nat) (ys : List VI) : Prop :=
  w.ownsRow N 34 4 (.slice A ys.length c) ys.length (ys.flatMap cellsV) ∧ ∀ y ∈ ys, w.ownsRow N 9 1 (.slice y.A y.v.ls.length y.c) y.v.ls.length (y.v.ls.map encS) ∧ SizeV y.v
theorem rowS_keep {w w' : World} {N n : Nat} {v : Value} {xs : List Value} (h : w.ownsRow N 9 1 v n xs) (hk : ∀ (k : Nat) (cs : Array Value), w.heap[k]? = some (.cells cs 9 (0, 0)) → w'.heap[k]? = some (.cells cs 9 (0, 0))) : w'.ownsRow N 9 1 v n xs :=
  own_kept h fun g hg => by
    rcases h.2 with ⟨rfl, _⟩ | ⟨g', cap, cur, rfl, _, hb, _⟩
    · simp [Value.ownBlock] at hg
    · obtain rfl : g' = g := by simpa [Value.ownBlock] using hg
      exact (hk _ _ hb).trans hb.symm
theorem own_down {w : World} {N M e k n : Nat} {v : Value} {xs : List Value} (h : w.ownsRow N e k v n xs) (hb : M ≤ N) : w.ownsRow M e k v n xs :=
  ⟨h.1, h.2.imp id fun ⟨g, cap, cur, h1, h2, h3⟩ => ⟨g, cap, cur, h1, Nat.le_trans hb h2, h3⟩⟩
theorem OwnV.below {w w' : World} {N c : Nat} {A : Option Addr} {ys : List VI} (h : OwnV w N A c ys) (hb : Below w.heap.size w w') : OwnV w' N A c ys :=
  ⟨own_below h.1 hb, fun y hy => ⟨own_below (h.2 y hy).1 hb, (h.2 y hy).2⟩⟩
theorem OwnV.vars {w : World} {N c : Nat} {A : Option Addr} {ys : List VI} (h : OwnV w N A c ys) : VarsP w (fun g => N ≤ g) A ys :=
  vars_of_row h.1 fun y hy => ⟨TextsP.of_own (h.2 y hy).1, (h.2 y hy).2⟩
theorem ownV_nil (w : World) (N : Nat) : OwnV w N none 0 [] := ⟨World.ownsRow_nil _ _ _ _, fun y hy => by cases hy⟩
/-- One variable more. -/
theorem OwnV.next {w w7 w8 : World} {N c g' cap' : Nat} {A : Option Addr} {ys : List VI} {y : VI} (h : OwnV w N A c ys) (hb : Below w.heap.size w w7) (hN : N ≤ w.heap.size)
    (hl : w7.ownsRow w.heap.size 9 1 (.slice y.A y.v.ls.length y.c) y.v.ls.length (y.v.ls.map encS)) (hs : SizeV y.v) (cs : Array Value) (t : TypeId)
    (hrow : w8.ownsRow N 34 4 (.slice (some ⟨g', 0, none⟩) (ys.length + 1) cap') (ys.length + 1) (ys.flatMap cellsV ++ cellsV y)) (hg : (w7.alloc (.cells cs t)).grownBy w8 (Value.slice A ys.length c).ownBlock) :
    OwnV w8 N (some ⟨g', 0, none⟩) cap' (ys ++ [y]) := by
  have hrow7 := own_below h.1 hb
  have keep : ∀ (k : Nat) (cs' : Array Value), w7.heap[k]? = some (.cells cs' 9 (0, 0)) → w8.heap[k]? = some (.cells cs' 9 (0, 0)) := fun k cs' hk => by
    have hka : (w7.alloc (.cells cs t)).heap[k]? = some (.cells cs' 9 (0, 0)) := heap_below' hk ((Below.refl _ _).alloc (Nat.le_refl _) _)
    refine (hg.block k (lt_of_block hka) fun e => ?_).trans hka
    rcases hrow7.2 with ⟨hv, _⟩ | ⟨g0, cap, cur, hv, _, hb0, _⟩
    · rw [hv] at e; cases e
    · rw [hv] at e
      obtain rfl : k = g0 := by simpa [Value.ownBlock] using e
      rw [hk] at hb0; cases hb0
  have hlen : (ys ++ [y]).length = ys.length + 1 := by simp
  refine ⟨?_, fun z hz => ?_⟩
  · rw [hlen, List.flatMap_append]
    simpa using hrow
  · rcases List.mem_append.1 hz with hz | hz
    · exact ⟨rowS_keep (own_below (h.2 z hz).1 hb) keep, (h.2 z hz).2⟩
    · obtain rfl : z = y := by simpa using hz
      exact ⟨rowS_keep (own_down hl hN) keep, hs⟩

set_option maxRecDepth 100000 in
set_option maxHeartbeats 4000000 in
theorem copyVarsP (A : Option Addr) (c : Nat) (l : List VI) (w : World) (P : Nat → Prop) (hsz : l.length * 64 ≤ 140737488355328) (hV : VarsP w P A l) :
    Calls Tryz.prog 19 #[.slice A l.length c] w fun e w' => ∃ A' c' ys, e = .returned (.slice A' ys.length c') ∧ OwnV w' w.heap.size A' c' ys ∧ ys.map (·.v) = l.map (·.v) ∧ Below w.heap.size w w' := by
  obtain ⟨i0, hi, hz0, hz1, hz2⟩ := info_parts info_var
  go_enter Tryz.func19, Tryz.ntmps19
  go_wp2
  go_loopw [3, 4] (fun v i wr => ∃ (ys : List VI) (a : Option Addr) (c' : Nat), ys.length ≤ l.length ∧ i = .int .i64 (ys.length : Nat) ∧ v = .slice a ys.length c' ∧ Below w.heap.size w wr ∧ OwnV wr w.heap.size a c' ys ∧ ys.map (·.v) = (l.map (·.v)).take ys.length) (fun _ i _ => l.length - (intOf i).toNat)
  case atStart => exact ⟨[], none, 0, Nat.zero_le _, rfl, rfl, Below.refl _ _, ownV_nil _ _, rfl⟩
  case round =>
    obtain ⟨ys, a, c', hk, rfl, rfl, hB, hO, hM⟩ := hrel
    by_cases hlt : ys.length < l.length
    · have h1 := hV.below hB
      obtain ⟨g1, o1, rfl, -, a0, a1, a2, a3⟩ := h1.1 ys.length hlt
      have t1 := h1.2 l[ys.length] (List.getElem_mem hlt)
      have HM : Hid (ys.map (·.v) ++ [l[ys.length].v] = (l.map (·.v)).take (ys.length + 1)) := hid (by
        rw [List.take_succ_eq_append_getElem (by simpa using hlt), List.getElem_map, hM])
      obtain ⟨x, hx⟩ : ∃ x, l[ys.length] = x := ⟨_, rfl⟩
      rw [hx] at a0 a1 a2 a3 t1 HM
      obtain ⟨⟨nm, tx, ar, ls⟩, Ax, cx⟩ := x
      have s3 := t1.2.ls
      dsimp only at a0 a1 a2 a3 s3 HM
      have hal : Below wr.heap.size wr (wr.alloc (.cells #[.string ⟨nm.toArray⟩, .string ⟨tx.toArray⟩, .bool ar, .slice Ax ls.length cx] 34)) := (Below.refl _ _).alloc (Nat.le_refl _) _
      have hX : Var4' (wr.alloc (.cells #[.string ⟨nm.toArray⟩, .string ⟨tx.toArray⟩, .bool ar, .slice Ax ls.length cx] 34)) wr.heap.size (.string ⟨nm.toArray⟩) (.string ⟨tx.toArray⟩) (.bool ar) (.slice Ax ls.length cx) := heap_alloc_new _ _
      have cC := copyTextsP Ax cx ls (wr.alloc (.cells #[.string ⟨nm.toArray⟩, .string ⟨tx.toArray⟩, .bool ar, .slice Ax ls.length cx] 34)) P (by omega) (t1.1.frame fun g hg hp => ⟨hp, hal.block g hg⟩)
      have HSV := hid t1.2
      have HX := hid hx
      clear h1 t1 hx hM hV
      go_wp2_with fail
      refine cC.mono ?_
      rintro e w6 ⟨A6, c6, rfl, hown6, hb6⟩
      have hX6 : Var4' w6 wr.heap.size (.string ⟨nm.toArray⟩) (.string ⟨tx.toArray⟩) (.bool ar) (.slice Ax ls.length cx) := hX.below hb6
      have hX7 := hX6.set3 (.slice A6 ls.length c6)
      have x3 := hX6.a3; have f3 := hX6.free 3
      have y0 := hX7.a0; have y1 := hX7.a1; have y2 := hX7.a2; have y3 := hX7.a3
      have hB6 : Below wr.heap.size wr w6 := hal.trans (hb6.mono hal.size)
      have hB7 : Below wr.heap.size wr (w6.setCell ⟨wr.heap.size, 3, none⟩ (.slice A6 ls.length c6)) := hB6.setCell (p := ⟨wr.heap.size, 3, none⟩) (Nat.le_refl _) _
      have hl7 : (w6.setCell ⟨wr.heap.size, 3, none⟩ (.slice A6 ls.length c6)).ownsRow wr.heap.size 9 1 (.slice A6 ls.length c6) ls.length (ls.map encS) := by
        refine rowS_keep (own_down hown6 (by simp)) fun k cs hk => (Below.heap_setCell _ _ _ _ (fun e => ?_)).trans hk
        have e : k = wr.heap.size := e
        subst e
        have hk2 : w6.heap[wr.heap.size]? = _ := hX6
        rw [hk2] at hk; cases hk
      have hrow7 := own_below hO.1 hB7
      have HO := hid (And.intro hO (And.intro hB7 hl7))
      have hs7 : wr.heap.size ≤ (w6.setCell ⟨wr.heap.size, 3, none⟩ (.slice A6 ls.length c6)).heap.size := hB7.size
      clear hO hB7 hl7 hB6 hown6 hb6 hX6 hX7 hX hal cC
      go_wp2_with (at_builtin; refine wpList_append_own _ rfl _ _ 25 rfl w.heap.size 34 i0 _ 4 64 Tryz.underlying25 hi hz0 hz1 hz2 rfl (by decide) _ _ _ rfl (hrow7.alloc _) ⟨w6.heap.size, 0, none⟩ 1 1 (cellsV ⟨⟨nm, tx, ar, ls⟩, A6, c6⟩) rfl rfl ?c1 ?c2 ?c3 ?c4 ?c5 ?_)
      case c1 =>
        have h := heap_alloc_new (w6.setCell ⟨wr.heap.size, 3, none⟩ (.slice A6 ls.length c6)) (.cells #[.string ⟨nm.toArray⟩, .string ⟨tx.toArray⟩, .bool ar, .slice A6 ls.length c6] 34)
        rw [show (w6.setCell ⟨wr.heap.size, 3, none⟩ (.slice A6 ls.length c6)).heap.size = w6.heap.size by simp] at h
        exact World.news_of_block h
      case c2 => simp [cellsV, Value.oneCell']
      case c3 => unfold maxLen; omega
      case c4 => omega
      case c5 => have := hB.size; simp at hs7 ⊢; omega
      intro v' w8 hown8 hg _
      obtain ⟨g', cap', rfl⟩ := ownsRow_succ hown8
      have hO8 := HO.out.1.next HO.out.2.1 hB.size HO.out.2.2 HSV.out _ _ hown8 hg
      have hB8 : Below w.heap.size w w8 := ((hB.trans (HO.out.2.1.mono hB.size)).alloc (by have := hB.size; simp at hs7 ⊢; omega) _).grown hg (by have := hB.size; simp at hs7 ⊢; omega) (fun j e => (HO.out.1.1.lt j e).1)
      have HF := hid (And.intro hO8 hB8)
      clear hO8 hB8 hown8 hg hrow7 hB HO
      go_wp2_with fail
      go_roundw
      case rel => exact ⟨ys ++ [⟨⟨nm, tx, ar, ls⟩, A6, c6⟩], some ⟨g', 0, none⟩, cap', by simp; omega, by simp, by simp, HF.out.2, HF.out.1, by rw [List.map_append, List.length_append]; exact HM.out⟩
      case measure => simp [intOf]; omega
    · have he : ys.length = l.length := by omega
      rw [he, List.take_of_length_le (by simp)] at hM
      have HF := hid (And.intro hO (And.intro hM hB))
      clear hO hM he hV hB
      go_wp2_with fail
      go_ret
      exact ⟨_, _, ys, rfl, HF.out.1, HF.out.2.1, HF.out.2.2⟩
end Go.Proofs.YthgmilllinbcjaaGreatDoor
