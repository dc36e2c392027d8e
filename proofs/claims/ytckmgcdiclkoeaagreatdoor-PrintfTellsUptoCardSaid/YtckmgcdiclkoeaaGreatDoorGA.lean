/- number.Parse as the mathematics of printf says it; of a few digits. No conditions. The program's Escape. Conditions: sizes. The program's planner: its reader's and its builder's steps. Conditions: sizes. The program's planner at a mark: percent. Conditions: sizes. The program's plan of a format: planned. Conditions: sizes. -/
import Derived.Test.YtckmgcdiclkoeaaGreatDoorNumE
import Derived.Test.YtckmgcdiclkoeaaGreatDoorPpE
import Derived.Test.YtckmgcdiclkoeaaGreatDoorPpM
import Derived.RegionTactic
import Derived.BigRegion
import Derived.Deep.AppendLies
import Derived.Deep.RegionLaw
import Derived.Test.YtckmgcdiclkoeaaGreatDoorDrawn
namespace Go.Proofs.YtckmgcdiclkoeaaGreatDoor
open Go.RowKit
open Go.Lib (hid)

theorem pblank : ∀ x : UInt8, ([(32 : UInt8), 9].contains x) = blkW x := Ans.all_u8 (by decide +kernel)
theorem ptrimE_cons (x : UInt8) (r : List UInt8) : trimE (x :: r) = if trimE r = [] ∧ blkW x = true then [] else x :: trimE r := by
  unfold trimE
  rw [List.reverse_cons, List.dropWhile_append]
  by_cases h : r.reverse.dropWhile blkW = []
  · cases hx : blkW x <;> simp [h, hx]
  · simp [h]
theorem ptrimE_head {u : List UInt8} {x : UInt8} (hx : blkW x = false) : ∃ v, trimE (x :: u) = x :: v := by
  rw [ptrimE_cons, if_neg (by rw [hx]; simp)]
  exact ⟨_, rfl⟩
theorem ptrim_swap : ∀ l : List UInt8, (trimE l).dropWhile blkW = trimE (l.dropWhile blkW)
  | [] => rfl
  | x :: r => by
    have ih := ptrim_swap r
    cases hx : blkW x
    · obtain ⟨v, hv⟩ := ptrimE_head (u := r) hx
      rw [List.dropWhile_cons, if_neg (by rw [hx]; simp), hv, List.dropWhile_cons, if_neg (by rw [hx]; simp)]
    · rw [List.dropWhile_cons, if_pos hx, ptrimE_cons, ← ih]
      by_cases h : trimE r = []
      · rw [if_pos ⟨h, hx⟩, h]
      · rw [if_neg (fun e => h e.1), List.dropWhile_cons, if_pos hx]
theorem ptrimS_eq (l : List UInt8) : Lib.trimS l [32, 9] = trimW l := by
  unfold Lib.trimS Lib.trimLeftS Lib.trimRightS
  rw [show ([(32 : UInt8), 9].contains ·) = blkW from funext pblank]
  exact ptrim_swap l
theorem signW_cons (c : UInt8) (r : List UInt8) : signW (c :: r) = if c = 45 then (if (readL 10 r).2 then (wrap64 (-(readL 10 r).1), 0) else (0, 33))
    else if c = 43 then (if (readL 10 r).2 then (wrap64 (readL 10 r).1, 0) else (0, 33))
    else (if (readL 10 (c :: r)).2 then (wrap64 (readL 10 (c :: r)).1, 0) else (0, 33)) := rfl
theorem pre_not {c x : UInt8} (r : List UInt8) (h : ¬ c = x) : Lib.hasPrefix (c :: r) [x] = false := by
  unfold Lib.hasPrefix
  simp only [List.isPrefixOf, Bool.and_true]
  simpa using fun e => h e.symm
theorem sign_eq (l : List UInt8) : signL l = signW l := by
  cases l with
  | nil => simp [signL, signW, Lib.hasPrefix, Lib.trimPrefix, readL, goodL]
  | cons c r =>
    rw [signW_cons]
    unfold signL
    by_cases h45 : c = 45
    · subst h45
      simp [Lib.hasPrefix, Lib.trimPrefix]
    · rw [pre_not r h45, if_neg (by simp), if_neg h45]
      by_cases h43 : c = 43
      · subst h43
        simp [Lib.hasPrefix, Lib.trimPrefix]
      · rw [if_neg h43]
        have h2 : Lib.trimPrefix (c :: r) [43] = c :: r := by unfold Lib.trimPrefix; rw [pre_not r h43, if_neg (by simp)]
        rw [h2]
theorem parse_eq (l : List UInt8) : parseL l = parseW l := by
  unfold parseL parseW
  rw [ptrimS_eq, sign_eq]
theorem pparse_any (s : List UInt8) (w : World) (hs : s.length ≤ 1099511627776) :
    Calls Tryz.prog 32 #[encS s] w fun e w' => e = .returned (.tuple #[.int .i64 (parseW s).1, .int .i64 (parseW s).2]) ∧ Below w.heap.size w w' := by
  have c := parse_any ⟨s.toArray⟩ w (by simp [ByteArray.size]; omega)
  have e : (⟨s.toArray⟩ : ByteArray).data.toList = s := by simp
  rw [e, parse_eq] at c
  exact c

theorem val_dec : ∀ (l : List UInt8) (n : Nat), (∀ c ∈ l, digB c = true) → valFrom 10 n l = ((l.foldl (fun n c => 10 * n + (c.toNat - 48)) n : Nat) : Int)
  | [], _, _ => rfl
  | c :: r, n, h => by
    have h1 : 48 ≤ c.toNat ∧ c.toNat ≤ 57 := by have := h c (by simp); unfold digB at this; exact of_decide_eq_true this
    have h2 : digI (c.toNat : Int) = ((c.toNat - 48 : Nat) : Int) := by unfold digI; rw [if_pos (by omega)]; omega
    rw [valFrom, List.foldl_cons, h2, ← val_dec r (10 * n + (c.toNat - 48)) (fun c hc => h c (by simp [hc]))]
    congr 1
    omega
theorem decN_small : ∀ l : List UInt8, (∀ c ∈ l, digB c = true) → l.length ≤ 3 → decN l ≤ 999
  | [], _, _ => by simp [decN]
  | [a], h, _ => by have := h a (by simp); simp [digB] at this; simp [decN]; omega
  | [a, b], h, _ => by have h1 := h a (by simp); have h2 := h b (by simp); simp [digB] at h1 h2; simp [decN]; omega
  | [a, b, c], h, _ => by have h1 := h a (by simp); have h2 := h b (by simp); have h3 := h c (by simp); simp [digB] at h1 h2 h3; simp [decN]; omega
  | _ :: _ :: _ :: _ :: _, _, h => by simp at h
theorem dig_blank : ∀ c : UInt8, digB c = true → blkW c = false ∧ c ≠ 45 ∧ c ≠ 43 := fun c h => by
  have := Ans.all_u8 (p := fun c => digB c = true → blkW c = false ∧ c ≠ 45 ∧ c ≠ 43) (by decide +kernel) c
  exact this h
theorem trim_plain : ∀ l : List UInt8, (∀ c ∈ l, blkW c = false) → trimE l = l
  | [], _ => rfl
  | x :: r, h => by
    rw [ptrimE_cons, if_neg (by rw [h x (by simp)]; simp), trim_plain r (fun c hc => h c (by simp [hc]))]
/-- The width that digits tell; none: 0. -/
theorem parse_width (l : List UInt8) (h : ∀ c ∈ l, digB c = true) (h3 : l.length ≤ 3) : (parseW l).1 = (decN l : Int) := by
  have hle := decN_small l h h3
  have ht : trimW l = l := by
    unfold trimW
    have h1 : l.dropWhile blkW = l := by
      cases l with
      | nil => rfl
      | cons c r => rw [List.dropWhile_cons, if_neg (by rw [(dig_blank c (h c (by simp))).1]; simp)]
    have h2 := trim_plain l (fun c hc => (dig_blank c (h c hc)).1)
    first
      | rw [h1, h2]
      | (rw [h2, h1])
  unfold parseW
  rw [ht]
  cases l with
  | nil => rfl
  | cons c r =>
    have hc := dig_blank c (h c (by simp))
    have hg : goodL 10 (c :: r) = true := by
      unfold goodL
      rw [List.all_eq_true]
      intro c hc
      have h1 : 48 ≤ c.toNat ∧ c.toNat ≤ 57 := by have := h c hc; unfold digB at this; exact of_decide_eq_true this
      unfold digI
      rw [if_pos (by omega)]
      simp
      omega
    have hv : valFrom 10 0 (c :: r) = (decN (c :: r) : Int) := val_dec _ 0 h
    rw [signW_cons, if_neg hc.2.1, if_neg hc.2.2]
    simp only [readL, hg, if_true, hv]
    have hU : U ((decN (c :: r) : Nat) : Int) = ((decN (c :: r) : Nat) : Int) := U_in (by omega) (by omega)
    rw [hU]
    simp
    exact wrap64_id (by omega) (by omega)
end Go.Proofs.YtckmgcdiclkoeaaGreatDoor
namespace Go.Proofs.YtckmgcdiclkoeaaGreatDoor
open Go.RowKit
open Go.Lib (hid)

/-- A builder bears what turns another block. -/
theorem Bld.one {T T' : TypeId} {B b b' o : Nat} {cs cs' : Array Value} {fr : Nat × Nat} {l : List UInt8} {w w' : World} (h : Bld T B b o cs l w) (ho : One b' w w') (hne : b ≠ b') (hb' : w.heap[b']? = some (.cells cs' T' fr)) (hT' : T' ≠ 5) : Bld T B b o cs l w' := by
  obtain ⟨hB, hT, hbk, p, v, h0, h1, h2, h3, h4⟩ := h
  exact ⟨hB, hT, (ho.block b (lt_of_block hbk) (fun e => hne (Option.some.inj e))).trans hbk, p, v, h0, h1, h2, h3.kept ho (.inr (Lib.ownBlock_ne h3 hb' hT')), h4⟩
/-- .. and what turns other cells of its own block. -/
theorem Bld.self {T : TypeId} {B b o : Nat} {cs cs' : Array Value} {l : List UInt8} {w w' : World} (h : Bld T B b o cs l w) (ho : One b w w') (hb' : w'.heap[b]? = some (.cells cs' T (0, 0))) (e0 : cs'[o]? = cs[o]?) (e1 : cs'[o + 1]? = cs[o + 1]?) : Bld T B b o cs' l w' := by
  obtain ⟨hB, hT, hbk, p, v, h0, h1, h2, h3, h4⟩ := h
  exact ⟨hB, hT, hb', p, v, e0.trans h0, e1.trans h1, h2, h3.kept ho (.inr (Lib.ownBlock_ne h3 hbk hT)), h4⟩
theorem escL_lit (c : UInt8) (t : List UInt8) : escL (c :: t) = (litT c t).1 ++ escL (t.drop ((litT c t).2 - 1)) := by
  rw [escL_cons]
  unfold litT
  split
  · rfl
  · simp
theorem litT_len (c : UInt8) (t : List UInt8) : 1 ≤ (litT c t).2 ∧ (litT c t).2 ≤ t.length + 1 ∧ (litT c t).1.length ≤ 1 := by
  have h := one_len t
  unfold litT
  split
  · rename_i h1
    exact ⟨h1.2, h.1, h.2.2.1⟩
  · simp
theorem lies_out : liesAt Tryz.prog Tryz.prog.depth 37 (2 / Tryz.prog.cellsOf 37) 0 37 1 = true := by kernel_rfl
theorem bld_out {B b : Nat} {cs : Array Value} {l : List UInt8} {w : World} (h : Bld 37 B b 0 cs l w) (hs : cs.size = 2) : ∃ p v, cs = #[p, v] := by
  match cs, hs with
  | ⟨[p, v]⟩, _ => exact ⟨p, v, rfl⟩

set_option maxRecDepth 100000 in
set_option maxHeartbeats 2000000 in
theorem escape_any (s : List UInt8) (w : World) (hs : s.length ≤ 1099511627776) :
    Calls Tryz.prog 8 #[encS s] w fun e w' => e = .returned (encS (escL s)) ∧ Below w.heap.size w w' := by
  obtain ⟨N, hN⟩ : ∃ N, w.heap.size = N := ⟨_, rfl⟩
  obtain ⟨W1, hW1⟩ : ∃ W1, w.alloc (.cells #[encS s, .int .i64 0] 50) = W1 := ⟨_, rfl⟩
  have hs1 : W1.heap.size = N + 1 := by rw [← hW1, ← hN]; simp
  obtain ⟨W2, hW2⟩ : ∃ W2, W1.alloc (.cells #[.pointer none, .slice none 0 0] 37) = W2 := ⟨_, rfl⟩
  have hs2 : W2.heap.size = N + 2 := by rw [← hW2]; simp; omega
  have hr1 : W1.heap[N]? = some (.cells #[encS s, .int .i64 0] 50 (0, 0)) := by rw [← hW1, ← hN]; exact heap_alloc_new _ _
  have hr2 : W2.heap[N]? = some (.cells #[encS s, .int .i64 0] 50 (0, 0)) := by rw [← hW2]; exact (Below.heap_alloc _ _ _ (by omega)).trans hr1
  have ho2 : W2.heap[N + 1]? = some (.cells #[.pointer none, .slice none 0 0] 37 (0, 0)) := by rw [← hW2, ← hs1]; exact heap_alloc_new _ _
  have hB2 : Below N w W2 := by
    rw [← hW2, ← hW1]
    exact ((Below.refl _ _).alloc (by omega) _).alloc (by simp; omega) _
  have HI := hid (And.intro hr2 (And.intro (bld_new 37 W2 N (N + 1) 0 _ (by decide) (by omega) ho2 rfl rfl) hB2))
  have HS2 := hid hs2
  have HN := hid hN
  clear hr1 hr2 ho2 hB2 hs1 hs2
  subst hW2
  subst hW1
  go_enter Tryz.func8, Tryz.ntmps8
  go_wp2_with fail
  go_loopg [] s.length (fun n wr => ∃ (k : Nat) (acc : List UInt8) (p v : Value), k + n = s.length ∧ acc.length ≤ k ∧ wr.heap[N]? = some (.cells #[encS s, .int .i64 k] 50 (0, 0)) ∧ Hid (Bld 37 N (N + 1) 0 #[p, v] acc wr) ∧ Hid (escL s = acc ++ escL (s.drop k)) ∧ Hid (Below N w wr))
  case atStart => exact ⟨0, [], .pointer none, .slice none 0 0, by omega, Nat.le_refl _, HI.out.1, hid HI.out.2.1, hid (by simp), hid HI.out.2.2⟩
  case round =>
    obtain ⟨k, acc, p, v, hkn, hal, hb, HB, HE, HW⟩ := hrel
    have hsz : (⟨s.toArray⟩ : ByteArray).size = s.length := by simp [ByteArray.size]
    have c0 : wr.cell? ⟨N, 0, none⟩ = some (encS s) := Lib.cell_of_heap hb 0
    have c1 : wr.cell? ⟨N, 1, none⟩ = some (.int .i64 k) := Lib.cell_of_heap hb 1
    have cM := more_any N ⟨s.toArray⟩ k wr c0 c1
    rw [hsz] at cM
    by_cases hlt : k < s.length
    · rw [decide_eq_true hlt] at cM
      have hd : s.drop k = s[k] :: s.drop (k + 1) := List.drop_eq_getElem_cons hlt
      generalize s[k] = c at *
      generalize s.drop (k + 1) = t at *
      have hl := litT_len c t
      have htl : t.length + k + 1 = s.length := by
        have := congrArg List.length hd
        rw [List.length_drop, List.length_cons] at this
        omega
      have HE2 : Hid (escL s = (acc ++ (litT c t).1) ++ escL (s.drop (k + (litT c t).2))) := hid (by
        rw [HE.out, hd, escL_lit, List.append_assoc]
        have e1 : t.drop ((litT c t).2 - 1) = s.drop (k + (litT c t).2) := by
          have : t = s.drop (k + 1) := by rw [← List.tail_drop, hd]; rfl
          conv => lhs; arg 2; rw [this]
          rw [List.drop_drop, show k + 1 + ((litT c t).2 - 1) = k + (litT c t).2 by omega]
        rw [e1])
      have cL := fun n => plit_any 50 N #[encS s, .int .i64 k] s k c t (wr.drewN n) hb rfl rfl hd hs
      obtain ⟨⟨u, j⟩, hu⟩ : ∃ u, litT c t = u := ⟨_, rfl⟩
      rw [hu] at HE2 cL hl
      simp only at HE2 cL hl
      have HB1 := HB.out.lt
      have hB' := hid hb
      clear HE hd hu
      go_wp2_with fail
      refine cM.mono ?_
      rintro e w1 ⟨rfl, m, rfl⟩
      go_wp2_with fail
      refine (cL m).mono ?_
      rintro e w2 ⟨rfl, hb2, ho2⟩
      have HB2 := HB.out.drewN m |>.one (b' := N) ho2 (by omega) hB'.out (by decide)
      have hW2 := HW.out.trans (Bears.below (One.bears (One.drewN (One.refl N wr) m |>.trans ho2) N) (Nat.le_refl _) (by have := HW.out.size; omega))
      have cS := bstr_any 37 N (N + 1) 0 #[p, v] acc u w2 lies_out HB2 (by omega) (by have := hW2.size; omega)
      have HW2 := hid hW2
      have HB2' := hid hb2
      clear hW2 HB2 hb2 ho2 cL cM HB HW
      go_wp2_with fail
      refine cS.mono ?_
      rintro e w3 ⟨rfl, ⟨v', hB3⟩, hbe⟩
      have hs2 := HW2.out.size
      have HF := hid (And.intro hB3 (And.intro ((hbe.block N (lt_of_block HB2'.out) (by omega) (.inr ⟨_, _, _, HB2'.out, by decide⟩)).trans HB2'.out) (HW2.out.trans (hbe.below (by omega) (by omega)))))
      clear hB3 hbe cS HW2 HB2' hs2
      go_wp2_with fail
      go_roundg (s.length - (k + j))
      case rel => exact ⟨k + j, acc ++ u, _, v', by omega, by rw [List.length_append]; omega, HF.out.2.1, hid HF.out.1, HE2, hid HF.out.2.2⟩
      case measure => omega
    · rw [decide_eq_false hlt] at cM
      have HE2 : Hid (escL s = acc) := hid (by rw [HE.out, List.drop_of_length_le (by omega), escL_nil, List.append_nil])
      have cS := fun n => btold_any 37 N (N + 1) 0 #[p, v] acc (wr.drewN n) (HB.out.drewN n)
      clear HE hb
      go_wp2_with fail
      refine cM.mono ?_
      rintro e w1 ⟨rfl, m, rfl⟩
      go_wp2_with fail
      refine (cS m).mono ?_
      rintro e w2 ⟨rfl, -, hbe⟩
      have hs2 := HW.out.size
      have HF := hid (HW.out.trans (below_drewN (Below.refl N wr) m |>.trans (hbe.below (by omega) (show N ≤ (wr.drewN m).heap.size by have := HN.out; show N ≤ wr.heap.size; omega))))
      clear hbe cS cM
      go_wp2_with fail
      go_ret
      exact ⟨by rw [HE2.out]; rfl, by rw [HN.out]; exact HF.out⟩
end Go.Proofs.YtckmgcdiclkoeaaGreatDoor
namespace Go.Proofs.YtckmgcdiclkoeaaGreatDoor
open Go.RowKit
open Go.Lib (hid)

def Cv.cells (c : Cv) : List Value := [.int .i64 c.sp.wide, .bool c.sp.left, .bool (c.sp.zeros && numB c.sp.letter), encS c.ahead, .int .u8 c.sp.letter.toNat]
def cvsV (l : List Cv) : List Value := l.flatMap Cv.cells
def plC (f : List UInt8) (k : Nat) (p v cv : Value) (fl : Bool) : Array Value := #[encS f, .int .i64 k, p, v, cv, encS [], .bool fl]
/-- A planner at a place of its format: what it wrote since the last conversion, its conversions, is there a fault. -/
def PlAt (B b : Nat) (f : List UInt8) (k : Nat) (acc : List UInt8) (cvs : List Cv) (fl : Bool) (w : World) : Prop :=
  ∃ p v cv, Bld 56 B b 2 (plC f k p v cv fl) acc w ∧ w.ownsRow B 62 5 cv cvs.length (cvsV cvs) ∧ B ≤ w.heap.size
theorem plC_set (f : List UInt8) (k : Nat) (p v cv : Value) (fl : Bool) (q u : Value) : ((plC f k p v cv fl).setIfInBounds 2 q).setIfInBounds (2 + 1) u = plC f k q u cv fl := by simp [plC]
theorem plC_size (f : List UInt8) (k : Nat) (p v cv : Value) (fl : Bool) : (plC f k p v cv fl).size = 7 := rfl
theorem lies_pl : liesAt Tryz.prog Tryz.prog.depth 56 (7 / Tryz.prog.cellsOf 56) 2 37 1 = true := by kernel_rfl
theorem ne_pl_u8 : 56 ≠ 5 := by decide
theorem ne_cv_u8 : 62 ≠ 5 := by decide
theorem ne_pl_cv : 56 ≠ 62 := by decide
theorem ownBlock_neE {w : World} {B k : Nat} {e T : TypeId} {v : Value} {n : Nat} {xs : List Value} {b : Nat} {cs : Array Value} {fr : Nat × Nat} (hown : w.ownsRow B e k v n xs) (hb : w.heap[b]? = some (.cells cs T fr)) (hTe : T ≠ e) : v.ownBlock ≠ some b := by
  rcases hown.2 with ⟨rfl, _⟩ | ⟨g, cap, cur, rfl, _, hg, _⟩
  · simp [Value.ownBlock]
  · intro h
    simp only [Value.ownBlock, Option.some.injEq] at h
    subst h
    rw [hg] at hb
    simp only [Option.some.injEq, Obj.cells.injEq] at hb
    exact hTe hb.2.1.symm
theorem PlAt.drew {B b k : Nat} {f acc : List UInt8} {cvs : List Cv} {fl : Bool} {w : World} (h : PlAt B b f k acc cvs fl w) : PlAt B b f k acc cvs fl w.drew := h
theorem PlAt.drewN {B b k : Nat} {f acc : List UInt8} {cvs : List Cv} {fl : Bool} {w : World} (h : PlAt B b f k acc cvs fl w) (n : Nat) : PlAt B b f k acc cvs fl (w.drewN n) := h
theorem PlAt.below {B b k : Nat} {f acc : List UInt8} {cvs : List Cv} {fl : Bool} {w w' : World} (h : PlAt B b f k acc cvs fl w) (hb : Below w.heap.size w w') : PlAt B b f k acc cvs fl w' := by
  obtain ⟨p, v, cv, h1, h2, h3⟩ := h
  exact ⟨p, v, cv, h1.below hb, own_below h2 hb, Nat.le_trans h3 hb.size⟩
/-- The cells that a walk reads. -/
theorem PlAt.c0 {B b k : Nat} {f acc : List UInt8} {cvs : List Cv} {fl : Bool} {w : World} (h : PlAt B b f k acc cvs fl w) : w.cell? ⟨b, 0, none⟩ = some (encS f) := by
  obtain ⟨p, v, cv, h1, -⟩ := h
  exact Lib.cell_of_heap h1.2.2.1 0
theorem PlAt.c1 {B b k : Nat} {f acc : List UInt8} {cvs : List Cv} {fl : Bool} {w : World} (h : PlAt B b f k acc cvs fl w) : w.cell? ⟨b, 1, none⟩ = some (.int .i64 k) := by
  obtain ⟨p, v, cv, h1, -⟩ := h
  exact Lib.cell_of_heap h1.2.2.1 1
theorem PlAt.c6 {B b k : Nat} {f acc : List UInt8} {cvs : List Cv} {fl : Bool} {w : World} (h : PlAt B b f k acc cvs fl w) : w.cell? ⟨b, 6, none⟩ = some (.bool fl) := by
  obtain ⟨p, v, cv, h1, -⟩ := h
  exact Lib.cell_of_heap h1.2.2.1 6
theorem PlAt.free {B b k : Nat} {f acc : List UInt8} {cvs : List Cv} {fl : Bool} {w : World} (h : PlAt B b f k acc cvs fl w) (j : Nat) : w.frozen? ⟨b, j, none⟩ = false := by
  obtain ⟨p, v, cv, h1, -⟩ := h
  exact Lib.frozen_of_heap h1.2.2.1 j
/-- A fault told. -/
theorem PlAt.fault {B b k : Nat} {f acc : List UInt8} {cvs : List Cv} {fl : Bool} {w : World} (h : PlAt B b f k acc cvs fl w) : PlAt B b f k acc cvs true (w.setCell ⟨b, 6, none⟩ (.bool true)) ∧ Below B w (w.setCell ⟨b, 6, none⟩ (.bool true)) := by
  obtain ⟨p, v, cv, h1, h2, h3⟩ := h
  refine ⟨⟨p, v, cv, h1.other (.bool true) (by omega) (by omega), ?_, by simpa using h3⟩, (Below.refl _ _).setCell h1.1 _⟩
  exact h2.kept (row := some b) ⟨rfl, rfl, rfl, by simp, fun g _ hg => Below.heap_setCell _ _ _ _ (fun e => hg (by rw [e]))⟩ (.inr (ownBlock_neE h2 h1.2.2.1 ne_pl_cv))

theorem PlAt.step {B b k k' : Nat} {f acc : List UInt8} {cvs : List Cv} {fl : Bool} {p v cv : Value} {w w' : World} (h1 : Bld 56 B b 2 (plC f k p v cv fl) acc w) (h2 : w.ownsRow B 62 5 cv cvs.length (cvsV cvs)) (h3 : B ≤ w.heap.size)
    (hb : w'.heap[b]? = some (.cells ((plC f k p v cv fl).setIfInBounds 1 (.int .i64 (k' : Int))) 56 (0, 0))) (ho : One b w w') : PlAt B b f k' acc cvs fl w' ∧ Below B w w' := by
  refine ⟨⟨p, v, cv, h1.self ho hb ?_ ?_, h2.kept ho (.inr (ownBlock_neE h2 h1.2.2.1 ne_pl_cv)), Nat.le_trans h3 ho.size⟩, (ho.bears B).below h1.1 h3⟩
  · rfl
  · rfl
/-- A reader's run over a planner. -/
theorem PlAt.run {B b k : Nat} {f acc : List UInt8} {cvs : List Cv} {fl : Bool} {w : World} (h : PlAt B b f k acc cvs fl w) (of : List UInt8) (most : Nat) (hk : k ≤ f.length) (hs : f.length ≤ 1099511627776) :
    Calls Tryz.prog 23 #[.pointer (some ⟨b, 0, none⟩), encS of, .int .i64 most] w fun e w' => e = .returned (encS (runL of most (f.drop k))) ∧ PlAt B b f (k + (runL of most (f.drop k)).length) acc cvs fl w' ∧ Below B w w' := by
  obtain ⟨p, v, cv, h1, h2, h3⟩ := h
  refine (run_any 56 b _ f of k most w h1.2.2.1 rfl rfl hk hs).mono ?_
  rintro e w' ⟨rfl, hb, ho⟩
  exact ⟨rfl, PlAt.step h1 h2 h3 hb ho⟩
theorem PlAt.lit {B b k : Nat} {f acc t : List UInt8} {c : UInt8} {cvs : List Cv} {fl : Bool} {w : World} (h : PlAt B b f k acc cvs fl w) (hd : f.drop k = c :: t) (hs : f.length ≤ 1099511627776) :
    Calls Tryz.prog 20 #[.pointer (some ⟨b, 0, none⟩)] w fun e w' => e = .returned (encS (litT c t).1) ∧ PlAt B b f (k + (litT c t).2) acc cvs fl w' ∧ Below B w w' := by
  obtain ⟨p, v, cv, h1, h2, h3⟩ := h
  refine (plit_any 56 b _ f k c t w h1.2.2.1 rfl rfl hd hs).mono ?_
  rintro e w' ⟨rfl, hb, ho⟩
  exact ⟨rfl, PlAt.step h1 h2 h3 hb ho⟩
theorem PlAt.more {B b k : Nat} {f acc : List UInt8} {cvs : List Cv} {fl : Bool} {w : World} (h : PlAt B b f k acc cvs fl w) :
    Calls Tryz.prog 19 #[.pointer (some ⟨b, 0, none⟩)] w fun e w' => e = .returned (.bool (decide (k < f.length))) ∧ ∃ m, w' = w.drewN m := by
  have c := more_any b ⟨f.toArray⟩ k w h.c0 h.c1
  rwa [show (⟨f.toArray⟩ : ByteArray).size = f.length by simp [ByteArray.size]] at c
theorem PlAt.byte {B b k : Nat} {f acc : List UInt8} {cvs : List Cv} {fl : Bool} {w : World} (h : PlAt B b f k acc cvs fl w) (x : UInt8) (hl : acc.length ≤ 1099511627776) :
    Calls Tryz.prog 17 #[.pointer (some ⟨b, 2, none⟩), .int .u8 x.toNat] w fun e w' => e = .returned .nilIface ∧ PlAt B b f k (acc ++ [x]) cvs fl w' ∧ Below B w w' := by
  obtain ⟨p, v, cv, h1, h2, h3⟩ := h
  refine (bbyte_any 56 B b 2 _ acc x w (by rw [plC_size]; exact lies_pl) h1 (by omega) h3).mono ?_
  rintro e w' ⟨rfl, ⟨v', hb⟩, ho⟩
  rw [plC_set] at hb
  exact ⟨rfl, ⟨_, v', cv, hb, ho.row h2 ne_cv_u8 (ownBlock_neE h2 h1.2.2.1 ne_pl_cv), Nat.le_trans h3 ho.size⟩, ho.below h1.1 h3⟩
theorem PlAt.str {B b k : Nat} {f acc : List UInt8} {cvs : List Cv} {fl : Bool} {w : World} (h : PlAt B b f k acc cvs fl w) (x : List UInt8) (hl : acc.length + x.length ≤ 1099511627776) :
    Calls Tryz.prog 18 #[.pointer (some ⟨b, 2, none⟩), encS x] w fun e w' => e = .returned (.tuple #[.int .i64 x.length, .nilIface]) ∧ PlAt B b f k (acc ++ x) cvs fl w' ∧ Below B w w' := by
  obtain ⟨p, v, cv, h1, h2, h3⟩ := h
  refine (bstr_any 56 B b 2 _ acc x w (by rw [plC_size]; exact lies_pl) h1 (by omega) h3).mono ?_
  rintro e w' ⟨rfl, ⟨v', hb⟩, ho⟩
  rw [plC_set] at hb
  exact ⟨rfl, ⟨_, v', cv, hb, ho.row h2 ne_cv_u8 (ownBlock_neE h2 h1.2.2.1 ne_pl_cv), Nat.le_trans h3 ho.size⟩, ho.below h1.1 h3⟩

/-- What stands behind a mark: flag, digits, letter, as the planner reads them. -/
def fl2 : List UInt8 := [45, 48]
def dg10 : List UInt8 := [48, 49, 50, 51, 52, 53, 54, 55, 56, 57]
def lt6 : List UInt8 := [115, 98, 100, 99, 120, 111]
theorem in_fl2 : ∀ c : UInt8, inB fl2 c = flagB c := Ans.all_u8 (by decide +kernel)
theorem in_dg10 : ∀ c : UInt8, inB dg10 c = digB c := Ans.all_u8 (by decide +kernel)
theorem in_lt6 : ∀ c : UInt8, inB lt6 c = letterB c := Ans.all_u8 (by decide +kernel)
theorem run_one (of : List UInt8) (t : List UInt8) : (runL of 1 t = [] ∧ ∀ c r, t = c :: r → inB of c = false) ∨ (∃ c r, t = c :: r ∧ inB of c = true ∧ runL of 1 t = [c]) := by
  cases t with
  | nil => exact .inl ⟨rfl, fun _ _ h => by cases h⟩
  | cons c r =>
    unfold runL
    rw [List.take_succ_cons, List.take_zero, List.takeWhile_cons]
    cases h : inB of c with
    | false => exact .inl ⟨by simp, fun c' r' e => by obtain ⟨rfl, rfl⟩ := List.cons.inj e; exact h⟩
    | true => exact .inr ⟨c, r, rfl, h, by simp⟩
theorem run_dg (t : List UInt8) : runL dg10 3 t = widthL t := by
  unfold runL widthL
  rw [show inB dg10 = digB from funext in_dg10]
theorem width_all (t : List UInt8) : ∀ c ∈ widthL t, digB c = true := fun c hc => by
  unfold widthL at hc
  exact mem_takeWhile digB _ c hc
theorem specL_cons (c : UInt8) (r : List UInt8) : specL (c :: r) = if c = 37 then ⟨37, false, false, 0, 2⟩ else if flagB c then specB (c == 45) (c == 48) 2 r else specB false false 1 (c :: r) := rfl
/-- The conversion behind a mark that no second one follows. -/
theorem spec_read (t : List UInt8) (h37 : ∀ r, t ≠ 37 :: r) (g u d lt : List UInt8) (hg : g = runL fl2 1 t) (hu : u = t.drop g.length) (hd : d = widthL u) (hlt : lt = runL lt6 1 (u.drop d.length)) :
    (lt = [] ∧ (specL t).letter = 0) ∨ (∃ c, lt = [c] ∧ letterB c = true ∧ specL t = ⟨c, g == [45], g == [48], decN d, g.length + d.length + 2⟩) := by
  have key : ∀ (a b : Bool) (k : Nat), (lt = [] ∧ (specB a b k u).letter = 0) ∨ (∃ c, lt = [c] ∧ letterB c = true ∧ specB a b k u = ⟨c, a, b, decN d, k + d.length + 1⟩) := fun a b k => by
    unfold specB
    rw [← hd]
    rcases run_one lt6 (u.drop d.length) with ⟨h1, h2⟩ | ⟨c, r, h1, h2, h3⟩
    · left
      refine ⟨by rw [hlt, h1], ?_⟩
      cases hr : u.drop d.length with
      | nil => rfl
      | cons c r =>
        have := h2 c r hr
        rw [in_lt6] at this
        simp only [this]
        rfl
    · right
      rw [in_lt6] at h2
      refine ⟨c, by rw [hlt, h3], h2, ?_⟩
      rw [h1]
      simp only [h2, if_true]
  rcases run_one fl2 t with ⟨h1, h2⟩ | ⟨c, r, h1, h2, h3⟩
  · have hg0 : g = [] := by rw [hg, h1]
    have hut : u = t := by rw [hu, hg0]; rfl
    have hs : specL t = specB false false 1 u := by
      rw [hut]
      cases t with
      | nil => rfl
      | cons c r =>
        have h3 := h2 c r rfl
        rw [in_fl2] at h3
        rw [specL_cons, if_neg (fun e => h37 r (by rw [e])), if_neg (by rw [h3]; simp)]
    rw [hs, hg0]
    rcases key false false 1 with h | ⟨c, a1, a2, a3⟩
    · exact .inl h
    · exact .inr ⟨c, a1, a2, by rw [a3]; simp; omega⟩
  · have hg0 : g = [c] := by rw [hg, h3]
    have hut : u = r := by rw [hu, hg0, h1]; rfl
    rw [in_fl2] at h2
    have hs : specL t = specB (c == 45) (c == 48) 2 u := by
      rw [hut, h1]
      rw [specL_cons, if_neg (fun e => h37 r (by rw [h1, e])), if_pos h2]
    rw [hs, hg0]
    rcases key (c == 45) (c == 48) 2 with h | ⟨c', a1, a2, a3⟩
    · exact .inl h
    · exact .inr ⟨c', a1, a2, by rw [a3]; simp; omega⟩
end Go.Proofs.YtckmgcdiclkoeaaGreatDoor
namespace Go.Proofs.YtckmgcdiclkoeaaGreatDoor
open Go.RowKit
open Go.Lib (hid)

theorem info_cv : (Tryz.prog.info? 62).map (fun i => (i.zero, i.size, i.bytes)) = some (some (.agg #[.int .i64 0, .bool false, .bool false, .string .empty, .int .u8 0]), 5, 40) := by kernel_rfl
/-- What percent leaves. -/
def PcPost (B b : Nat) (f : List UInt8) (k : Nat) (t acc : List UInt8) (cvs : List Cv) (w' : World) : Prop :=
  if (specL t).letter = 0 then ∃ k', k' ≤ f.length ∧ PlAt B b f k' acc cvs true w'
  else if (specL t).letter = 37 then PlAt B b f (k + (specL t).size - 1) (acc ++ [37]) cvs false w'
  else PlAt B b f (k + (specL t).size - 1) [] (cvs ++ [⟨specL t, acc⟩]) false w'

theorem in_dxo : ∀ c : UInt8, decide (0 ≤ Lib.indexByte [100, 120, 111] c) = numB c := Ans.all_u8 (by decide +kernel)
theorem cells3 {b c d : Addr} {y z u : Value} {w : World} (h2 : w.cell? b = some y) (h3 : w.cell? c = some z) (h4 : w.cell? d = some u) : Cells [(b, y), (c, z), (d, u)] w := fun q hq => by
  rcases List.mem_cons.1 hq with rfl | hq
  · exact h2
  rcases List.mem_cons.1 hq with rfl | hq
  · exact h3
  rcases List.mem_cons.1 hq with rfl | hq
  · exact h4
  · cases hq
theorem cells_set {b N o : Nat} {x y z : Value} {w : World} (h : Cells [(⟨N, 0, none⟩, x), (⟨N, 1, none⟩, y), (⟨N, 2, none⟩, z)] w) (hne : N ≠ b) (v : Value) : Cells [(⟨N, 0, none⟩, x), (⟨N, 1, none⟩, y), (⟨N, 2, none⟩, z)] (w.setCell ⟨b, o, none⟩ v) := fun q hq =>
  (World.cell?_setCell_other w ⟨b, o, none⟩ q.1 v fun e => hne (by
    have : q.1.block = N := by
      rcases List.mem_cons.1 hq with rfl | hq
      · rfl
      rcases List.mem_cons.1 hq with rfl | hq
      · rfl
      rcases List.mem_cons.1 hq with rfl | hq
      · rfl
      · cases hq
    rw [← this, ← e])).trans (h q hq)
theorem cells_grown {N : Nat} {x y z : Value} {w w' : World} {row : Option Nat} (h : Cells [(⟨N, 0, none⟩, x), (⟨N, 1, none⟩, y), (⟨N, 2, none⟩, z)] w) (hg : w.grownBy w' row) (hne : some N ≠ row) : Cells [(⟨N, 0, none⟩, x), (⟨N, 1, none⟩, y), (⟨N, 2, none⟩, z)] w' := fun q hq =>
  hg.cell (h q hq) (by
    have : q.1.block = N := by
      rcases List.mem_cons.1 hq with rfl | hq
      · rfl
      rcases List.mem_cons.1 hq with rfl | hq
      · rfl
      rcases List.mem_cons.1 hq with rfl | hq
      · rfl
      · cases hq
    rw [this]
    exact hne)
theorem ne_fd_cv : 60 ≠ 62 := by decide
theorem ne_fd_u8 : 60 ≠ 5 := by decide
theorem ne_fd_pl : 60 ≠ 56 := by decide
/-- Behind an append to the conversions, a store and a reset. -/
theorem PlAt.added {B b k : Nat} {f : List UInt8} {cvs : List Cv} {cn : Cv} {p v cv cv' : Value} {w3 w4 : World} (hb3 : w3.heap[b]? = some (.cells (plC f k p v cv false) 56 (0, 0)))
    (hown : w3.ownsRow B 62 5 cv' (cvs ++ [cn]).length (cvsV (cvs ++ [cn]))) (hBw : B ≤ w3.heap.size)
    (hR : Bld 56 B b 2 ((((plC f k p v cv false).setIfInBounds 4 cv').setIfInBounds 2 (.pointer none)).setIfInBounds (2 + 1) (.slice none 0 0)) [] w4) (ho : Bears B b (w3.setCell ⟨b, 4, none⟩ cv') w4) :
    PlAt B b f k [] (cvs ++ [cn]) false w4 := by
  have hne := ownBlock_neE hown hb3 ne_pl_cv
  have h1 : (w3.setCell ⟨b, 4, none⟩ cv').ownsRow B 62 5 cv' (cvs ++ [cn]).length (cvsV (cvs ++ [cn])) :=
    hown.kept (row := some b) ⟨rfl, rfl, rfl, by simp, fun g _ hg => Below.heap_setCell _ _ _ _ (fun e => hg (by rw [e]))⟩ (.inr hne)
  refine ⟨.pointer none, .slice none 0 0, cv', ?_, ho.row h1 ne_cv_u8 hne, Nat.le_trans hBw (by have := ho.size; simpa using this)⟩
  have e : ((((plC f k p v cv false).setIfInBounds 4 cv').setIfInBounds 2 (.pointer none)).setIfInBounds (2 + 1) (.slice none 0 0)) = plC f k (.pointer none) (.slice none 0 0) cv' false := by simp [plC]
  rwa [e] at hR

set_option maxRecDepth 100000 in
set_option maxHeartbeats 2000000 in
theorem percent_any (B b k : Nat) (f t acc : List UInt8) (cvs : List Cv) (w : World) (h : PlAt B b f k acc cvs false w) (hd : f.drop k = t) (hk : k ≤ f.length) (hs : f.length ≤ 1099511627776) (ha : acc.length ≤ 1099511627776) (hc : cvs.length ≤ 1099511627776) :
    Calls Tryz.prog 24 #[.pointer (some ⟨b, 0, none⟩)] w fun e w' => e = .returned (.tuple #[]) ∧ PcPost B b f k t acc cvs w' ∧ Below B w w' := by
  have c1 := h.run [37] 1 hk hs
  rw [hd] at c1
  by_cases h37 : ∃ r, t = 37 :: r
  · obtain ⟨r, rfl⟩ := h37
    have hr : runL [37] 1 (37 :: r) = [37] := by
      rcases run_one [37] (37 :: r) with ⟨-, h2⟩ | ⟨c, r', h1, -, h3⟩
      · exact absurd (h2 37 r rfl) (by decide)
      · rw [h3, (List.cons.inj h1).1]
    have hsp : specL (37 :: r) = ⟨37, false, false, 0, 2⟩ := rfl
    rw [hr] at c1
    have HP : Hid (∀ w', PlAt B b f (k + 1) (acc ++ [37]) cvs false w' → PcPost B b f k (37 :: r) acc cvs w') := hid fun w' h' => by
      unfold PcPost
      rw [hsp, if_neg (by decide), if_pos rfl]
      exact h'
    clear hd hr hsp h
    go_enter Tryz.func24, Tryz.ntmps24
    go_wp2_with fail
    refine c1.mono ?_
    rintro e w1 ⟨rfl, h1, hb1⟩
    have cB := h1.byte 37 ha
    have HB := hid hb1
    clear h1 hb1 c1
    go_wp2_with fail
    refine cB.mono ?_
    rintro e w2 ⟨rfl, h2, hb2⟩
    have HF := hid (And.intro h2 (HB.out.trans hb2))
    clear h2 hb2 cB HB
    go_wp2_with fail
    refine bodyPost_ret (results_none rfl _ _ _) rfl ?_
    exact ⟨rfl, HP.out _ HF.out.1, HF.out.2⟩
  · have hr : runL [37] 1 t = [] := by
      rcases run_one [37] t with ⟨h1, -⟩ | ⟨c, r', h1, h2, -⟩
      · exact h1
      · have : c = 37 := by
          have := Ans.all_u8 (p := fun c => inB [37] c = true → c = 37) (by decide +kernel) c
          exact this h2
        exact absurd ⟨r', by rw [h1, this]⟩ h37
    rw [hr] at c1
    have hsr := spec_read t (fun r e => h37 ⟨r, e⟩) (runL fl2 1 t) (t.drop (runL fl2 1 t).length) (widthL (t.drop (runL fl2 1 t).length)) (runL lt6 1 ((t.drop (runL fl2 1 t).length).drop (widthL (t.drop (runL fl2 1 t).length)).length)) rfl rfl rfl rfl
    have hgl := run_len fl2 1 t
    have hwl := width_len (t.drop (runL fl2 1 t).length)
    have hll := run_len lt6 1 ((t.drop (runL fl2 1 t).length).drop (widthL (t.drop (runL fl2 1 t).length)).length)
    have hwa := width_all (t.drop (runL fl2 1 t).length)
    have htl : t.length = f.length - k := by rw [← hd, List.length_drop]
    obtain ⟨g, hg⟩ : ∃ g, runL fl2 1 t = g := ⟨_, rfl⟩
    rw [hg] at hsr hgl hwl hll hwa
    obtain ⟨u, hu⟩ : ∃ u, t.drop g.length = u := ⟨_, rfl⟩
    rw [hu] at hsr hwl hll hwa
    obtain ⟨d, hdd⟩ : ∃ d, widthL u = d := ⟨_, rfl⟩
    rw [hdd] at hsr hwl hll hwa
    obtain ⟨lt, hlt⟩ : ∃ lt, runL lt6 1 (u.drop d.length) = lt := ⟨_, rfl⟩
    rw [hlt] at hsr hll
    have hul : u.length = t.length - g.length := by rw [← hu, List.length_drop]
    rw [List.length_drop] at hll
    have e2 : f.drop (k + g.length) = u := by rw [← hu, ← hd, List.drop_drop]
    have e3 : f.drop (k + g.length + d.length) = u.drop d.length := by rw [← e2, List.drop_drop]
    have hpw := parse_width d hwa hwl.1
    have hdn := decN_small d hwa hwl.1
    have cP := fun W => pparse_any d W (by omega)
    rw [hpw] at cP
    obtain ⟨q, hq⟩ : ∃ q, (parseW d).2 = q := ⟨_, rfl⟩
    rw [hq] at cP
    obtain ⟨m, hm⟩ : ∃ m, decN d = m := ⟨_, rfl⟩
    rw [hm] at cP hdn hsr
    have HD := hid hd
    have HG := hid hg
    have HE2 := hid e2
    have HE3 := hid e3
    have HDD := hid (show runL dg10 3 u = d by rw [run_dg, hdd])
    have HLT := hid hlt
    have hsz1 : k + g.length ≤ f.length := by omega
    have hsz2 : k + g.length + d.length ≤ f.length := by omega
    have hsz3 : k + g.length + d.length + lt.length ≤ f.length := by omega
    clear hd hg hu hdd hlt hul e2 e3 hpw hwa hq hm hr hgl hwl hll htl h37 h
    rcases hsr with ⟨rfl, hl0⟩ | ⟨c, rfl, hlc, hsp⟩
    · have HP : Hid (∀ w' k', k' ≤ f.length → PlAt B b f k' acc cvs true w' → PcPost B b f k t acc cvs w') := hid fun w' k' hk' h' => by
        unfold PcPost
        rw [if_pos hl0]
        exact ⟨k', hk', h'⟩
      clear hl0
      go_enter Tryz.func24, Tryz.ntmps24
      go_wp2_with fail
      refine c1.mono ?_
      rintro e w1 ⟨rfl, h1, hb1⟩
      have h1' : PlAt B b f k acc cvs false w1 := h1
      have c2 := h1'.run fl2 1 hk hs
      rw [HD.out, HG.out] at c2
      have HB1 := hid hb1
      clear h1 h1' hb1 c1
      go_wp2_with fail
      refine c2.mono ?_
      rintro e w2 ⟨rfl, h2, hb2⟩
      have c3 := h2.run dg10 3 hsz1 hs
      rw [HE2.out, HDD.out] at c3
      have HB2 := hid (HB1.out.trans hb2)
      clear h2 hb2 c2 HB1
      go_wp2_with fail
      refine c3.mono ?_
      rintro e w3 ⟨rfl, h3, hb3⟩
      have HB3 := hid (HB2.out.trans hb3)
      have H3 := hid h3
      clear h3 hb3 c3 HB2
      go_wp2_with fail
      refine (cP _).mono ?_
      rintro e w4 ⟨rfl, hb4⟩
      have h4 := H3.out.below hb4
      have HB4 := hid (HB3.out.trans (hb4.mono (by obtain ⟨_, _, _, _, _, h⟩ := H3.out; exact h)))
      have c5 := h4.run lt6 1 hsz2 hs
      rw [HE3.out, HLT.out] at c5
      clear h4 hb4 H3 HB3 cP
      go_wp2_with fail
      refine c5.mono ?_
      rintro e w5 ⟨rfl, h5, hb5⟩
      have x6 := h5.c6
      have f6 := h5.free 6
      have hf := h5.fault
      have HF := hid (And.intro hf.1 ((HB4.out.trans hb5).trans hf.2))
      clear h5 hb5 hf c5 HB4
      go_wp2_with fail
      refine bodyPost_ret (results_none rfl _ _ _) rfl ?_
      exact ⟨rfl, HP.out _ _ hsz3 HF.out.1, HF.out.2⟩
    · have hln : (specL t).letter ≠ 0 ∧ (specL t).letter ≠ 37 := by
        rw [hsp]
        have := Ans.all_u8 (p := fun c => letterB c = true → c ≠ 0 ∧ c ≠ 37) (by decide +kernel) c
        exact this hlc
      obtain ⟨z, hz⟩ : ∃ z, ((g == [48]) && numB c) = z := ⟨_, rfl⟩
      obtain ⟨l45, h45⟩ : ∃ l45, (g == [45]) = l45 := ⟨_, rfl⟩
      have HCV : Hid (Cv.cells ⟨specL t, acc⟩ = [.int .i64 m, .bool l45, .bool z, encS acc, .int .u8 c.toNat]) := hid (by
        unfold Cv.cells
        rw [hsp, ← hz, ← h45])
      have HP : Hid (∀ w', PlAt B b f (k + g.length + d.length + 1) [] (cvs ++ [⟨specL t, acc⟩]) false w' → PcPost B b f k t acc cvs w') := hid fun w' h' => by
        unfold PcPost
        rw [if_neg hln.1, if_neg hln.2]
        have e : k + (specL t).size - 1 = k + g.length + d.length + 1 := by rw [hsp]; simp only; omega
        rw [e]
        exact h'
      obtain ⟨i0, hi, hz0, hz1, hz2⟩ := info_parts info_cv
      have cK := fun W => Tryz.strings_Contains_one ⟨#[100, 120, 111]⟩ c W
      rw [show (⟨#[100, 120, 111]⟩ : ByteArray).data.toList = [100, 120, 111] from rfl, in_dxo] at cK
      obtain ⟨nb, hnb⟩ : ∃ nb, numB c = nb := ⟨_, rfl⟩
      rw [hnb] at cK hz
      generalize (⟨specL t, acc⟩ : Cv) = CN at *
      have hgc : ∀ h, (⟨#[c]⟩ : ByteArray)[0]'h = c := fun _ => rfl
      have hz' : ((g == [48]) = true ∧ Hid (nb = z)) ∨ ((g == [48]) = false ∧ Hid (false = z)) := by
        cases h48 : (g == [48])
        · exact .inr ⟨rfl, hid (by rw [← hz, h48]; rfl)⟩
        · exact .inl ⟨rfl, hid (by rw [← hz, h48]; rfl)⟩
      clear hln hsp hlc hnb hz
      go_enter Tryz.func24, Tryz.ntmps24
      go_wp2_with fail
      refine c1.mono ?_
      rintro e w1 ⟨rfl, h1, hb1⟩
      have h1' : PlAt B b f k acc cvs false w1 := h1
      have c2 := h1'.run fl2 1 hk hs
      rw [HD.out, HG.out] at c2
      have HB1 := hid hb1
      clear h1 h1' hb1 c1
      go_wp2_with fail
      refine c2.mono ?_
      rintro e w2 ⟨rfl, h2, hb2⟩
      have c3 := h2.run dg10 3 hsz1 hs
      rw [HE2.out, HDD.out] at c3
      have HB2 := hid (HB1.out.trans hb2)
      clear h2 hb2 c2 HB1
      go_wp2_with fail
      refine c3.mono ?_
      rintro e w3 ⟨rfl, h3, hb3⟩
      have HB3 := hid (HB2.out.trans hb3)
      have H3 := hid h3
      clear h3 hb3 c3 HB2
      go_wp2_with fail
      refine (cP _).mono ?_
      rintro e w4 ⟨rfl, hb4⟩
      have h4 := H3.out.below hb4
      have HB4 := hid (HB3.out.trans (hb4.mono (by obtain ⟨_, _, _, _, _, h⟩ := H3.out; exact h)))
      have c5 := h4.run lt6 1 hsz2 hs
      rw [HE3.out, HLT.out] at c5
      clear h4 hb4 H3 HB3 cP
      go_wp2_with fail
      refine c5.mono ?_
      rintro e w5 ⟨rfl, h5, hb5⟩
      have HB5 := hid (HB4.out.trans hb5)
      have H5 := hid h5
      clear h5 hb5 c5 HB4
      rcases hz' with ⟨h48, HZ⟩ | ⟨h48, HZ⟩
      · go_wp2_with fail
        refine (cK _).mono ?_
        rintro e w6 ⟨rfl, rfl⟩
        rw [HZ.out]
        go_wp2_with fail
        obtain ⟨p, v, cv, hbld, hrow, hBw⟩ := H5.out
        have hBb : B ≤ b := hbld.1
        obtain ⟨W6, hW6⟩ : ∃ W6, w6.alloc (.cells #[.int .i64 m, .bool l45, .bool z] 60) = W6 := ⟨_, rfl⟩
        have hb6 : Below w6.heap.size w6 W6 := by rw [← hW6]; exact (Below.refl _ _).alloc (Nat.le_refl _) _
        have hfb : W6.heap[w6.heap.size]? = some (.cells #[.int .i64 m, .bool l45, .bool z] 60 (0, 0)) := by rw [← hW6]; exact heap_alloc_new _ _
        rw [hW6]
        have hbld6 := hbld.below hb6
        have hrow6 := own_below hrow hb6
        have hbk6 := hbld6.2.2.1
        have hs6 := hb6.size
        have HB6 := hid (HB5.out.trans (hb6.mono hBw))
        have hnb : w6.heap.size ≠ b := by have := hbld.lt; omega
        obtain ⟨N, hN⟩ : ∃ N, w6.heap.size = N := ⟨_, rfl⟩
        rw [hN] at hfb hnb hs6 hBw ⊢
        clear hbld hrow hb6 H5 HB5 hW6 hN
        have HBK := hid hbk6
        have HFB := hid hfb
        have x4 : W6.drew.cell? ⟨b, 4, none⟩ = some cv := Lib.cell_of_heap (w := W6.drew) hbk6 4
        have hS : Cells [(⟨N, 0, none⟩, .int .i64 m), (⟨N, 1, none⟩, .bool l45), (⟨N, 2, none⟩, .bool z)] W6.drew := cells3 (Lib.cell_of_heap (w := W6.drew) hfb 0) (Lib.cell_of_heap (w := W6.drew) hfb 1) (Lib.cell_of_heap (w := W6.drew) hfb 2)
        have cS := btold_any 56 B b 2 _ acc W6.drew hbld6.drew
        have HR6 := hid hrow6
        have HNE := hid (ownBlock_neE hrow6 hbk6 ne_pl_cv)
        clear hbk6 hfb hbld6 hrow6
        refine wp_region_held_drew (S := Cells [(⟨N, 0, none⟩, .int .i64 m), (⟨N, 1, none⟩, .bool l45), (⟨N, 2, none⟩, .bool z)]) (by kernel_rfl) hS (fun _ => ?_)
        refine takeH (i := 0) (d := some 50) (v := .pointer (some ⟨b, 0, none⟩)) rfl rfl (by kernel_rfl) (by kernel_rfl) (by kernel_rfl) (fun _ _ _ h => h) (Or.inl ⟨by rfl, fun w' _ => by go_simp⟩) hS ?_
        try simp only [Act.put, List.setIfInBounds_toArray, List.set_cons_zero, List.set_cons_succ]
        refine takeH (i := 1) (d := some 51) (v := .pointer (some ⟨b, 0, none⟩)) rfl rfl (by kernel_rfl) (by kernel_rfl) (by kernel_rfl) (fun _ _ _ h => h) (Or.inl ⟨by rfl, fun w' _ => by go_simp⟩) hS ?_
        try simp only [Act.put, List.setIfInBounds_toArray, List.set_cons_zero, List.set_cons_succ]
        refine takeH (i := 2) (d := some 52) (v := .pointer (some ⟨b, 0, none⟩)) rfl rfl (by kernel_rfl) (by kernel_rfl) (by kernel_rfl) (fun _ _ _ h => h) (Or.inl ⟨by rfl, fun w' _ => by go_simp⟩) hS ?_
        try simp only [Act.put, List.setIfInBounds_toArray, List.set_cons_zero, List.set_cons_succ]
        refine takeH (i := 3) (d := some 53) (v := .pointer (some ⟨b, 4, none⟩)) rfl rfl (by kernel_rfl) (by kernel_rfl) (by kernel_rfl) (fun _ _ _ h => h) (Or.inl ⟨by rfl, fun w' _ => by go_simp⟩) hS ?_
        try simp only [Act.put, List.setIfInBounds_toArray, List.set_cons_zero, List.set_cons_succ]
        refine takeH (i := 4) (d := some 54) (v := .pointer (some ⟨b, 4, none⟩)) rfl rfl (by kernel_rfl) (by kernel_rfl) (by kernel_rfl) (fun _ _ _ h => h) (Or.inl ⟨by rfl, fun w' _ => by go_simp⟩) hS ?_
        try simp only [Act.put, List.setIfInBounds_toArray, List.set_cons_zero, List.set_cons_succ]
        refine takeH (i := 6) (d := some 56) (v := .agg #[.int .i64 m, .bool l45, .bool z]) rfl rfl (by kernel_rfl) (by kernel_rfl) (by kernel_rfl) (fun _ _ _ h => h) (Or.inl ⟨by rfl, fun w' hS' => by have s0 := hS' _ (.head _); have s1 := hS' _ (.tail _ (.head _)); have s2 := hS' _ (.tail _ (.tail _ (.head _))); dsimp only at s0 s1 s2; go_simp⟩) hS ?_
        try simp only [Act.put, List.setIfInBounds_toArray, List.set_cons_zero, List.set_cons_succ]
        refine takeH (i := 7) (d := some 57) (v := .pointer (some ⟨b, 0, none⟩)) rfl rfl (by kernel_rfl) (by kernel_rfl) (by kernel_rfl) (fun _ _ _ h => h) (Or.inl ⟨by rfl, fun w' _ => by go_simp⟩) hS ?_
        try simp only [Act.put, List.setIfInBounds_toArray, List.set_cons_zero, List.set_cons_succ]
        refine takeH (i := 8) (d := some 58) (v := .pointer (some ⟨b, 0, none⟩)) rfl rfl (by kernel_rfl) (by kernel_rfl) (by kernel_rfl) (fun _ _ _ h => h) (Or.inl ⟨by rfl, fun w' _ => by go_simp⟩) hS ?_
        try simp only [Act.put, List.setIfInBounds_toArray, List.set_cons_zero, List.set_cons_succ]
        refine takeH (i := 9) (d := some 59) (v := .pointer (some ⟨b, 2, none⟩)) rfl rfl (by kernel_rfl) (by kernel_rfl) (by kernel_rfl) (fun _ _ _ h => h) (Or.inl ⟨by rfl, fun w' _ => by go_simp⟩) hS ?_
        try simp only [Act.put, List.setIfInBounds_toArray, List.set_cons_zero, List.set_cons_succ]
        refine takeH (i := 11) (d := some 61) (v := encS [c]) rfl rfl (by kernel_rfl) (by kernel_rfl) (by kernel_rfl) (fun _ _ _ h => h) (Or.inl ⟨by rfl, fun w' _ => by go_simp⟩) hS ?_
        try simp only [Act.put, List.setIfInBounds_toArray, List.set_cons_zero, List.set_cons_succ]
        refine takeH (i := 12) (d := some 62) (v := .int .u8 c.toNat) rfl rfl (by kernel_rfl) (by kernel_rfl) (by kernel_rfl) (fun _ _ _ h => h) (Or.inl ⟨by rfl, fun w' _ => by go_simp⟩) hS ?_
        try simp only [Act.put, List.setIfInBounds_toArray, List.set_cons_zero, List.set_cons_succ]
        refine wpAnyH_ready (rs := [5, 10]) (by kernel_rfl) (by simp) (AllReadyH.cons rfl (fun K hK => ?_) (AllReadyH.cons rfl (fun K hK => ?_) AllReadyH.nil))
        · skip
          go_simp
          refine hK.out _ _ hS (fun _ => ?_)
          clear hK K
          try simp only [Act.put, List.setIfInBounds_toArray, List.set_cons_zero, List.set_cons_succ]
          refine wpAnyH_ready (rs := [10]) (by kernel_rfl) (by simp) (AllReadyH.cons rfl (fun K hK => ?_) AllReadyH.nil)
          go_simp
          go_at_call 15
          refine cS.mono ?_
          rintro e w7 ⟨rfl, hbb7, ho7⟩
          have hbk7 : w7.heap[b]? = some (.cells (plC f (k + g.length + d.length + 1) p v cv false) 56 (0, 0)) := hbb7.trans HBK.out
          have hrow7 := ho7.row HR6.out ne_cv_u8 HNE.out
          have hfb7 : w7.heap[N]? = some (.cells #[.int .i64 m, .bool l45, .bool z] 60 (0, 0)) := (ho7.block N (lt_of_block HFB.out) hnb (.inr ⟨_, _, _, HFB.out, ne_fd_u8⟩)).trans HFB.out
          have hS7 : Cells [(⟨N, 0, none⟩, .int .i64 m), (⟨N, 1, none⟩, .bool l45), (⟨N, 2, none⟩, .bool z)] w7 := cells3 (Lib.cell_of_heap hfb7 0) (Lib.cell_of_heap hfb7 1) (Lib.cell_of_heap hfb7 2)
          have x47 : w7.cell? ⟨b, 4, none⟩ = some cv := Lib.cell_of_heap hbk7 4
          have x47a : (w7.alloc (.cells #[.int .i64 m, .bool l45, .bool z, encS acc, .int .u8 c.toNat] 62)).cell? ⟨b, 4, none⟩ = some cv := Lib.cell_of_heap ((Below.heap_alloc w7 _ b (lt_of_block hbk7)).trans hbk7) 4
          have hs7 : W6.heap.size ≤ w7.heap.size := ho7.size
          have HBK7 := hid hbk7
          have HFB7 := hid hfb7
          clear hbk7 hfb7
          go_wp2_with fail
          refine hK.out _ _ hS7 (fun _ => ?_)
          clear hK K
          try simp only [Act.put, List.setIfInBounds_toArray, List.set_cons_zero, List.set_cons_succ]
          refine takeH (i := 13) (d := some 63) (v := .agg #[.int .i64 m, .bool l45, .bool z, encS acc, .int .u8 c.toNat]) rfl rfl (by kernel_rfl) (by kernel_rfl) (by kernel_rfl) (fun _ _ _ h => h) (Or.inl ⟨by rfl, fun w' _ => by go_simp⟩) hS7 ?_
          try simp only [Act.put, List.setIfInBounds_toArray, List.set_cons_zero, List.set_cons_succ]
          refine wpAnyH_ready (rs := [14]) (by kernel_rfl) (by simp) (AllReadyH.cons rfl (fun K hK => ?_) AllReadyH.nil)
          go_simp
          refine hK.out _ _ (hS7.below ((Below.refl _ _).alloc (Nat.le_refl _) _)) (fun _ => ?_)
          clear hK K
          try simp only [Act.put, List.setIfInBounds_toArray, List.set_cons_zero, List.set_cons_succ]
          refine wpAnyH_ready (rs := [15]) (by kernel_rfl) (by simp) (AllReadyH.cons rfl (fun K hK => ?_) AllReadyH.nil)
          refine step_append_lies _ (by rfl) _ _ _ (by rfl) B 62 i0 (.agg #[.int .i64 0, .bool false, .bool false, .string .empty, .int .u8 0]) 5 40 Tryz.underlying30 hi hz0 hz1 hz2 rfl (by omega) cv cvs.length (cvsV cvs) (by rfl) (hrow7.alloc _) ⟨w7.heap.size, 0, none⟩ 1 1 [.int .i64 m, .bool l45, .bool z, encS acc, .int .u8 c.toNat] (by rfl) (by rfl) (World.news_of_block (cs := #[.int .i64 m, .bool l45, .bool z, encS acc, .int .u8 c.toNat]) (t := 62) (fr := (0, 0)) (heap_alloc_new w7 _)) (by simp [Value.oneCell']) (by omega) (by unfold maxLen; omega) (by omega) (by simp; omega) (w7.heap.size + 1) (by simp) ?_
          intro gg cap w8 hown8 hg8 _ _
          have hbk8 : w8.heap[b]? = some (.cells (plC f (k + g.length + d.length + 1) p v cv false) 56 (0, 0)) := (hg8.block b (Nat.lt_of_lt_of_le (lt_of_block HBK7.out) (by simp)) (fun e => ownBlock_neE hrow7 HBK7.out ne_pl_cv e.symm)).trans ((Below.heap_alloc w7 _ b (lt_of_block HBK7.out)).trans HBK7.out)
          have hS8 := cells_grown (hS7.below ((Below.refl _ _).alloc (Nat.le_refl _) _)) hg8 (fun e => ownBlock_neE hrow7 HFB7.out ne_fd_cv e.symm)
          have x48 : w8.cell? ⟨b, 4, none⟩ = some cv := Lib.cell_of_heap hbk8 4
          have f48 : w8.frozen? ⟨b, 4, none⟩ = false := Lib.frozen_of_heap hbk8 4
          have HBK8 := hid hbk8
          clear hbk8
          change K (Act.put _ (some 65) _) _
          refine hK.out _ _ hS8 (fun _ => ?_)
          clear hK K
          try simp only [Act.put, List.setIfInBounds_toArray, List.set_cons_zero, List.set_cons_succ]
          refine takeH (i := 16) (d := some 66) (v := .pointer (some ⟨b, 0, none⟩)) rfl rfl (by kernel_rfl) (by kernel_rfl) (by kernel_rfl) (fun _ _ _ h => h) (Or.inl ⟨by rfl, fun w' _ => by go_simp⟩) hS8 ?_
          try simp only [Act.put, List.setIfInBounds_toArray, List.set_cons_zero, List.set_cons_succ]
          refine takeH (i := 17) (d := some 67) (v := .pointer (some ⟨b, 4, none⟩)) rfl rfl (by kernel_rfl) (by kernel_rfl) (by kernel_rfl) (fun _ _ _ h => h) (Or.inl ⟨by rfl, fun w' _ => by go_simp⟩) hS8 ?_
          try simp only [Act.put, List.setIfInBounds_toArray, List.set_cons_zero, List.set_cons_succ]
          refine takeH (i := 18) (d := some 68) (v := .pointer (some ⟨b, 4, none⟩)) rfl rfl (by kernel_rfl) (by kernel_rfl) (by kernel_rfl) (fun _ _ _ h => h) (Or.inl ⟨by rfl, fun w' _ => by go_simp⟩) hS8 ?_
          try simp only [Act.put, List.setIfInBounds_toArray, List.set_cons_zero, List.set_cons_succ]
          refine wpAnyH_ready (rs := [19]) (by kernel_rfl) (by simp) (AllReadyH.cons rfl (fun K hK => ?_) AllReadyH.nil)
          go_simp
          refine hK.out _ _ (cells_set hS8 hnb _) (fun _ => ?_)
          clear hK K
          try simp only [Act.put, List.setIfInBounds_toArray, List.set_cons_zero, List.set_cons_succ]
          refine wpAnyH_done (by kernel_rfl) ?_ _
          have hown9 : w8.ownsRow B 62 5 (.slice (some ⟨gg, 0, none⟩) (cvs.length + 1) cap) (cvs ++ [CN]).length (cvsV (cvs ++ [CN])) := by
            unfold cvsV at hown8 ⊢
            rw [List.flatMap_append, List.length_append, List.flatMap_cons, List.flatMap_nil, List.append_nil, HCV.out]
            exact hown8
          have hb9 := heap_setCell_same w8 b 4 _ 56 (.slice (some ⟨gg, 0, none⟩) (cvs.length + 1) cap) HBK8.out
          have hB7 : Below B W6 w7 := ((Below.refl B W6).drew).trans (ho7.below hBb (by show B ≤ W6.heap.size; omega))
          have hB8 : Below B W6 (w8.setCell ⟨b, 4, none⟩ (.slice (some ⟨gg, 0, none⟩) (cvs.length + 1) cap)) := ((hB7.alloc (by omega) _).grown hg8 (by simp; omega) (fun j e => (hrow7.lt j e).1)).setCell hBb _
          have cR := breset_any 56 B b 2 _ _ ne_pl_u8 hBb hb9 (by simp [plC])
          have hs8 : B ≤ w8.heap.size := by have := hB8.size; simp at this; omega
          have HF := hid (And.intro hown9 (And.intro HBK8.out (And.intro hs8 (HB6.out.trans hB8))))
          clear hown8 hown9 hg8 hrow7 hb9 hB7 hB8 ho7 hbb7 cS hS hS7 hS8 x47 x47a x48 f48 x4
          go_wp2_with fail
          refine cR.mono ?_
          rintro e w9 ⟨rfl, hR, ho9⟩
          have HG2 := hid (And.intro (PlAt.added HF.out.2.1 HF.out.1 HF.out.2.2.1 hR ho9) (HF.out.2.2.2.trans (ho9.below hBb (by simpa using HF.out.2.2.1))))
          clear hR ho9 cR
          go_wp2_with fail
          go_end0
          exact ⟨rfl, HP.out _ HG2.out.1, HG2.out.2⟩
        · skip
          go_simp
          go_at_call 15
          refine cS.mono ?_
          rintro e w7 ⟨rfl, hbb7, ho7⟩
          have hbk7 : w7.heap[b]? = some (.cells (plC f (k + g.length + d.length + 1) p v cv false) 56 (0, 0)) := hbb7.trans HBK.out
          have hrow7 := ho7.row HR6.out ne_cv_u8 HNE.out
          have hfb7 : w7.heap[N]? = some (.cells #[.int .i64 m, .bool l45, .bool z] 60 (0, 0)) := (ho7.block N (lt_of_block HFB.out) hnb (.inr ⟨_, _, _, HFB.out, ne_fd_u8⟩)).trans HFB.out
          have hS7 : Cells [(⟨N, 0, none⟩, .int .i64 m), (⟨N, 1, none⟩, .bool l45), (⟨N, 2, none⟩, .bool z)] w7 := cells3 (Lib.cell_of_heap hfb7 0) (Lib.cell_of_heap hfb7 1) (Lib.cell_of_heap hfb7 2)
          have x47 : w7.cell? ⟨b, 4, none⟩ = some cv := Lib.cell_of_heap hbk7 4
          have x47a : (w7.alloc (.cells #[.int .i64 m, .bool l45, .bool z, encS acc, .int .u8 c.toNat] 62)).cell? ⟨b, 4, none⟩ = some cv := Lib.cell_of_heap ((Below.heap_alloc w7 _ b (lt_of_block hbk7)).trans hbk7) 4
          have hs7 : W6.heap.size ≤ w7.heap.size := ho7.size
          have HBK7 := hid hbk7
          have HFB7 := hid hfb7
          clear hbk7 hfb7
          go_wp2_with fail
          refine hK.out _ _ hS7 (fun _ => ?_)
          clear hK K
          try simp only [Act.put, List.setIfInBounds_toArray, List.set_cons_zero, List.set_cons_succ]
          refine takeH (i := 13) (d := some 63) (v := .agg #[.int .i64 m, .bool l45, .bool z, encS acc, .int .u8 c.toNat]) rfl rfl (by kernel_rfl) (by kernel_rfl) (by kernel_rfl) (fun _ _ _ h => h) (Or.inl ⟨by rfl, fun w' _ => by go_simp⟩) hS7 ?_
          try simp only [Act.put, List.setIfInBounds_toArray, List.set_cons_zero, List.set_cons_succ]
          refine wpAnyH_ready (rs := [5, 14]) (by kernel_rfl) (by simp) (AllReadyH.cons rfl (fun K hK => ?_) (AllReadyH.cons rfl (fun K hK => ?_) AllReadyH.nil))
          · skip
            go_simp
            refine hK.out _ _ hS7 (fun _ => ?_)
            clear hK K
            try simp only [Act.put, List.setIfInBounds_toArray, List.set_cons_zero, List.set_cons_succ]
            refine wpAnyH_ready (rs := [14]) (by kernel_rfl) (by simp) (AllReadyH.cons rfl (fun K hK => ?_) AllReadyH.nil)
            go_simp
            refine hK.out _ _ (hS7.below ((Below.refl _ _).alloc (Nat.le_refl _) _)) (fun _ => ?_)
            clear hK K
            try simp only [Act.put, List.setIfInBounds_toArray, List.set_cons_zero, List.set_cons_succ]
            refine wpAnyH_ready (rs := [15]) (by kernel_rfl) (by simp) (AllReadyH.cons rfl (fun K hK => ?_) AllReadyH.nil)
            refine step_append_lies _ (by rfl) _ _ _ (by rfl) B 62 i0 (.agg #[.int .i64 0, .bool false, .bool false, .string .empty, .int .u8 0]) 5 40 Tryz.underlying30 hi hz0 hz1 hz2 rfl (by omega) cv cvs.length (cvsV cvs) (by rfl) (hrow7.alloc _) ⟨w7.heap.size, 0, none⟩ 1 1 [.int .i64 m, .bool l45, .bool z, encS acc, .int .u8 c.toNat] (by rfl) (by rfl) (World.news_of_block (cs := #[.int .i64 m, .bool l45, .bool z, encS acc, .int .u8 c.toNat]) (t := 62) (fr := (0, 0)) (heap_alloc_new w7 _)) (by simp [Value.oneCell']) (by omega) (by unfold maxLen; omega) (by omega) (by simp; omega) (w7.heap.size + 1) (by simp) ?_
            intro gg cap w8 hown8 hg8 _ _
            have hbk8 : w8.heap[b]? = some (.cells (plC f (k + g.length + d.length + 1) p v cv false) 56 (0, 0)) := (hg8.block b (Nat.lt_of_lt_of_le (lt_of_block HBK7.out) (by simp)) (fun e => ownBlock_neE hrow7 HBK7.out ne_pl_cv e.symm)).trans ((Below.heap_alloc w7 _ b (lt_of_block HBK7.out)).trans HBK7.out)
            have hS8 := cells_grown (hS7.below ((Below.refl _ _).alloc (Nat.le_refl _) _)) hg8 (fun e => ownBlock_neE hrow7 HFB7.out ne_fd_cv e.symm)
            have x48 : w8.cell? ⟨b, 4, none⟩ = some cv := Lib.cell_of_heap hbk8 4
            have f48 : w8.frozen? ⟨b, 4, none⟩ = false := Lib.frozen_of_heap hbk8 4
            have HBK8 := hid hbk8
            clear hbk8
            change K (Act.put _ (some 65) _) _
            refine hK.out _ _ hS8 (fun _ => ?_)
            clear hK K
            try simp only [Act.put, List.setIfInBounds_toArray, List.set_cons_zero, List.set_cons_succ]
            refine takeH (i := 16) (d := some 66) (v := .pointer (some ⟨b, 0, none⟩)) rfl rfl (by kernel_rfl) (by kernel_rfl) (by kernel_rfl) (fun _ _ _ h => h) (Or.inl ⟨by rfl, fun w' _ => by go_simp⟩) hS8 ?_
            try simp only [Act.put, List.setIfInBounds_toArray, List.set_cons_zero, List.set_cons_succ]
            refine takeH (i := 17) (d := some 67) (v := .pointer (some ⟨b, 4, none⟩)) rfl rfl (by kernel_rfl) (by kernel_rfl) (by kernel_rfl) (fun _ _ _ h => h) (Or.inl ⟨by rfl, fun w' _ => by go_simp⟩) hS8 ?_
            try simp only [Act.put, List.setIfInBounds_toArray, List.set_cons_zero, List.set_cons_succ]
            refine takeH (i := 18) (d := some 68) (v := .pointer (some ⟨b, 4, none⟩)) rfl rfl (by kernel_rfl) (by kernel_rfl) (by kernel_rfl) (fun _ _ _ h => h) (Or.inl ⟨by rfl, fun w' _ => by go_simp⟩) hS8 ?_
            try simp only [Act.put, List.setIfInBounds_toArray, List.set_cons_zero, List.set_cons_succ]
            refine wpAnyH_ready (rs := [19]) (by kernel_rfl) (by simp) (AllReadyH.cons rfl (fun K hK => ?_) AllReadyH.nil)
            go_simp
            refine hK.out _ _ (cells_set hS8 hnb _) (fun _ => ?_)
            clear hK K
            try simp only [Act.put, List.setIfInBounds_toArray, List.set_cons_zero, List.set_cons_succ]
            refine wpAnyH_done (by kernel_rfl) ?_ _
            have hown9 : w8.ownsRow B 62 5 (.slice (some ⟨gg, 0, none⟩) (cvs.length + 1) cap) (cvs ++ [CN]).length (cvsV (cvs ++ [CN])) := by
              unfold cvsV at hown8 ⊢
              rw [List.flatMap_append, List.length_append, List.flatMap_cons, List.flatMap_nil, List.append_nil, HCV.out]
              exact hown8
            have hb9 := heap_setCell_same w8 b 4 _ 56 (.slice (some ⟨gg, 0, none⟩) (cvs.length + 1) cap) HBK8.out
            have hB7 : Below B W6 w7 := ((Below.refl B W6).drew).trans (ho7.below hBb (by show B ≤ W6.heap.size; omega))
            have hB8 : Below B W6 (w8.setCell ⟨b, 4, none⟩ (.slice (some ⟨gg, 0, none⟩) (cvs.length + 1) cap)) := ((hB7.alloc (by omega) _).grown hg8 (by simp; omega) (fun j e => (hrow7.lt j e).1)).setCell hBb _
            have cR := breset_any 56 B b 2 _ _ ne_pl_u8 hBb hb9 (by simp [plC])
            have hs8 : B ≤ w8.heap.size := by have := hB8.size; simp at this; omega
            have HF := hid (And.intro hown9 (And.intro HBK8.out (And.intro hs8 (HB6.out.trans hB8))))
            clear hown8 hown9 hg8 hrow7 hb9 hB7 hB8 ho7 hbb7 cS hS hS7 hS8 x47 x47a x48 f48 x4
            go_wp2_with fail
            refine cR.mono ?_
            rintro e w9 ⟨rfl, hR, ho9⟩
            have HG2 := hid (And.intro (PlAt.added HF.out.2.1 HF.out.1 HF.out.2.2.1 hR ho9) (HF.out.2.2.2.trans (ho9.below hBb (by simpa using HF.out.2.2.1))))
            clear hR ho9 cR
            go_wp2_with fail
            go_end0
            exact ⟨rfl, HP.out _ HG2.out.1, HG2.out.2⟩
          · skip
            go_simp
            refine hK.out _ _ (hS7.below ((Below.refl _ _).alloc (Nat.le_refl _) _)) (fun _ => ?_)
            clear hK K
            try simp only [Act.put, List.setIfInBounds_toArray, List.set_cons_zero, List.set_cons_succ]
            refine wpAnyH_ready (rs := [5]) (by kernel_rfl) (by simp) (AllReadyH.cons rfl (fun K hK => ?_) AllReadyH.nil)
            go_simp
            refine hK.out _ _ (hS7.below ((Below.refl _ _).alloc (Nat.le_refl _) _)) (fun _ => ?_)
            clear hK K
            try simp only [Act.put, List.setIfInBounds_toArray, List.set_cons_zero, List.set_cons_succ]
            refine wpAnyH_ready (rs := [15]) (by kernel_rfl) (by simp) (AllReadyH.cons rfl (fun K hK => ?_) AllReadyH.nil)
            refine step_append_lies _ (by rfl) _ _ _ (by rfl) B 62 i0 (.agg #[.int .i64 0, .bool false, .bool false, .string .empty, .int .u8 0]) 5 40 Tryz.underlying30 hi hz0 hz1 hz2 rfl (by omega) cv cvs.length (cvsV cvs) (by rfl) (hrow7.alloc _) ⟨w7.heap.size, 0, none⟩ 1 1 [.int .i64 m, .bool l45, .bool z, encS acc, .int .u8 c.toNat] (by rfl) (by rfl) (World.news_of_block (cs := #[.int .i64 m, .bool l45, .bool z, encS acc, .int .u8 c.toNat]) (t := 62) (fr := (0, 0)) (heap_alloc_new w7 _)) (by simp [Value.oneCell']) (by omega) (by unfold maxLen; omega) (by omega) (by simp; omega) (w7.heap.size + 1) (by simp) ?_
            intro gg cap w8 hown8 hg8 _ _
            have hbk8 : w8.heap[b]? = some (.cells (plC f (k + g.length + d.length + 1) p v cv false) 56 (0, 0)) := (hg8.block b (Nat.lt_of_lt_of_le (lt_of_block HBK7.out) (by simp)) (fun e => ownBlock_neE hrow7 HBK7.out ne_pl_cv e.symm)).trans ((Below.heap_alloc w7 _ b (lt_of_block HBK7.out)).trans HBK7.out)
            have hS8 := cells_grown (hS7.below ((Below.refl _ _).alloc (Nat.le_refl _) _)) hg8 (fun e => ownBlock_neE hrow7 HFB7.out ne_fd_cv e.symm)
            have x48 : w8.cell? ⟨b, 4, none⟩ = some cv := Lib.cell_of_heap hbk8 4
            have f48 : w8.frozen? ⟨b, 4, none⟩ = false := Lib.frozen_of_heap hbk8 4
            have HBK8 := hid hbk8
            clear hbk8
            change K (Act.put _ (some 65) _) _
            refine hK.out _ _ hS8 (fun _ => ?_)
            clear hK K
            try simp only [Act.put, List.setIfInBounds_toArray, List.set_cons_zero, List.set_cons_succ]
            refine takeH (i := 16) (d := some 66) (v := .pointer (some ⟨b, 0, none⟩)) rfl rfl (by kernel_rfl) (by kernel_rfl) (by kernel_rfl) (fun _ _ _ h => h) (Or.inl ⟨by rfl, fun w' _ => by go_simp⟩) hS8 ?_
            try simp only [Act.put, List.setIfInBounds_toArray, List.set_cons_zero, List.set_cons_succ]
            refine takeH (i := 17) (d := some 67) (v := .pointer (some ⟨b, 4, none⟩)) rfl rfl (by kernel_rfl) (by kernel_rfl) (by kernel_rfl) (fun _ _ _ h => h) (Or.inl ⟨by rfl, fun w' _ => by go_simp⟩) hS8 ?_
            try simp only [Act.put, List.setIfInBounds_toArray, List.set_cons_zero, List.set_cons_succ]
            refine takeH (i := 18) (d := some 68) (v := .pointer (some ⟨b, 4, none⟩)) rfl rfl (by kernel_rfl) (by kernel_rfl) (by kernel_rfl) (fun _ _ _ h => h) (Or.inl ⟨by rfl, fun w' _ => by go_simp⟩) hS8 ?_
            try simp only [Act.put, List.setIfInBounds_toArray, List.set_cons_zero, List.set_cons_succ]
            refine wpAnyH_ready (rs := [19]) (by kernel_rfl) (by simp) (AllReadyH.cons rfl (fun K hK => ?_) AllReadyH.nil)
            go_simp
            refine hK.out _ _ (cells_set hS8 hnb _) (fun _ => ?_)
            clear hK K
            try simp only [Act.put, List.setIfInBounds_toArray, List.set_cons_zero, List.set_cons_succ]
            refine wpAnyH_done (by kernel_rfl) ?_ _
            have hown9 : w8.ownsRow B 62 5 (.slice (some ⟨gg, 0, none⟩) (cvs.length + 1) cap) (cvs ++ [CN]).length (cvsV (cvs ++ [CN])) := by
              unfold cvsV at hown8 ⊢
              rw [List.flatMap_append, List.length_append, List.flatMap_cons, List.flatMap_nil, List.append_nil, HCV.out]
              exact hown8
            have hb9 := heap_setCell_same w8 b 4 _ 56 (.slice (some ⟨gg, 0, none⟩) (cvs.length + 1) cap) HBK8.out
            have hB7 : Below B W6 w7 := ((Below.refl B W6).drew).trans (ho7.below hBb (by show B ≤ W6.heap.size; omega))
            have hB8 : Below B W6 (w8.setCell ⟨b, 4, none⟩ (.slice (some ⟨gg, 0, none⟩) (cvs.length + 1) cap)) := ((hB7.alloc (by omega) _).grown hg8 (by simp; omega) (fun j e => (hrow7.lt j e).1)).setCell hBb _
            have cR := breset_any 56 B b 2 _ _ ne_pl_u8 hBb hb9 (by simp [plC])
            have hs8 : B ≤ w8.heap.size := by have := hB8.size; simp at this; omega
            have HF := hid (And.intro hown9 (And.intro HBK8.out (And.intro hs8 (HB6.out.trans hB8))))
            clear hown8 hown9 hg8 hrow7 hb9 hB7 hB8 ho7 hbb7 cS hS hS7 hS8 x47 x47a x48 f48 x4
            go_wp2_with fail
            refine cR.mono ?_
            rintro e w9 ⟨rfl, hR, ho9⟩
            have HG2 := hid (And.intro (PlAt.added HF.out.2.1 HF.out.1 HF.out.2.2.1 hR ho9) (HF.out.2.2.2.trans (ho9.below hBb (by simpa using HF.out.2.2.1))))
            clear hR ho9 cR
            go_wp2_with fail
            go_end0
            exact ⟨rfl, HP.out _ HG2.out.1, HG2.out.2⟩
      · have hzz : z = false := HZ.out.symm
        subst hzz
        obtain ⟨w6, rfl⟩ : ∃ w6, w6 = w5 := ⟨_, rfl⟩
        clear HZ
        go_wp2_with fail
        obtain ⟨p, v, cv, hbld, hrow, hBw⟩ := H5.out
        have hBb : B ≤ b := hbld.1
        obtain ⟨W6, hW6⟩ : ∃ W6, w6.alloc (.cells #[.int .i64 m, .bool l45, .bool false] 60) = W6 := ⟨_, rfl⟩
        have hb6 : Below w6.heap.size w6 W6 := by rw [← hW6]; exact (Below.refl _ _).alloc (Nat.le_refl _) _
        have hfb : W6.heap[w6.heap.size]? = some (.cells #[.int .i64 m, .bool l45, .bool false] 60 (0, 0)) := by rw [← hW6]; exact heap_alloc_new _ _
        rw [hW6]
        have hbld6 := hbld.below hb6
        have hrow6 := own_below hrow hb6
        have hbk6 := hbld6.2.2.1
        have hs6 := hb6.size
        have HB6 := hid (HB5.out.trans (hb6.mono hBw))
        have hnb : w6.heap.size ≠ b := by have := hbld.lt; omega
        obtain ⟨N, hN⟩ : ∃ N, w6.heap.size = N := ⟨_, rfl⟩
        rw [hN] at hfb hnb hs6 hBw ⊢
        clear hbld hrow hb6 H5 HB5 hW6 hN
        have HBK := hid hbk6
        have HFB := hid hfb
        have x4 : W6.drew.cell? ⟨b, 4, none⟩ = some cv := Lib.cell_of_heap (w := W6.drew) hbk6 4
        have hS : Cells [(⟨N, 0, none⟩, .int .i64 m), (⟨N, 1, none⟩, .bool l45), (⟨N, 2, none⟩, .bool false)] W6.drew := cells3 (Lib.cell_of_heap (w := W6.drew) hfb 0) (Lib.cell_of_heap (w := W6.drew) hfb 1) (Lib.cell_of_heap (w := W6.drew) hfb 2)
        have cS := btold_any 56 B b 2 _ acc W6.drew hbld6.drew
        have HR6 := hid hrow6
        have HNE := hid (ownBlock_neE hrow6 hbk6 ne_pl_cv)
        clear hbk6 hfb hbld6 hrow6
        refine wp_region_held_drew (S := Cells [(⟨N, 0, none⟩, .int .i64 m), (⟨N, 1, none⟩, .bool l45), (⟨N, 2, none⟩, .bool false)]) (by kernel_rfl) hS (fun _ => ?_)
        refine takeH (i := 0) (d := some 50) (v := .pointer (some ⟨b, 0, none⟩)) rfl rfl (by kernel_rfl) (by kernel_rfl) (by kernel_rfl) (fun _ _ _ h => h) (Or.inl ⟨by rfl, fun w' _ => by go_simp⟩) hS ?_
        try simp only [Act.put, List.setIfInBounds_toArray, List.set_cons_zero, List.set_cons_succ]
        refine takeH (i := 1) (d := some 51) (v := .pointer (some ⟨b, 0, none⟩)) rfl rfl (by kernel_rfl) (by kernel_rfl) (by kernel_rfl) (fun _ _ _ h => h) (Or.inl ⟨by rfl, fun w' _ => by go_simp⟩) hS ?_
        try simp only [Act.put, List.setIfInBounds_toArray, List.set_cons_zero, List.set_cons_succ]
        refine takeH (i := 2) (d := some 52) (v := .pointer (some ⟨b, 0, none⟩)) rfl rfl (by kernel_rfl) (by kernel_rfl) (by kernel_rfl) (fun _ _ _ h => h) (Or.inl ⟨by rfl, fun w' _ => by go_simp⟩) hS ?_
        try simp only [Act.put, List.setIfInBounds_toArray, List.set_cons_zero, List.set_cons_succ]
        refine takeH (i := 3) (d := some 53) (v := .pointer (some ⟨b, 4, none⟩)) rfl rfl (by kernel_rfl) (by kernel_rfl) (by kernel_rfl) (fun _ _ _ h => h) (Or.inl ⟨by rfl, fun w' _ => by go_simp⟩) hS ?_
        try simp only [Act.put, List.setIfInBounds_toArray, List.set_cons_zero, List.set_cons_succ]
        refine takeH (i := 4) (d := some 54) (v := .pointer (some ⟨b, 4, none⟩)) rfl rfl (by kernel_rfl) (by kernel_rfl) (by kernel_rfl) (fun _ _ _ h => h) (Or.inl ⟨by rfl, fun w' _ => by go_simp⟩) hS ?_
        try simp only [Act.put, List.setIfInBounds_toArray, List.set_cons_zero, List.set_cons_succ]
        refine takeH (i := 6) (d := some 56) (v := .agg #[.int .i64 m, .bool l45, .bool false]) rfl rfl (by kernel_rfl) (by kernel_rfl) (by kernel_rfl) (fun _ _ _ h => h) (Or.inl ⟨by rfl, fun w' hS' => by have s0 := hS' _ (.head _); have s1 := hS' _ (.tail _ (.head _)); have s2 := hS' _ (.tail _ (.tail _ (.head _))); dsimp only at s0 s1 s2; go_simp⟩) hS ?_
        try simp only [Act.put, List.setIfInBounds_toArray, List.set_cons_zero, List.set_cons_succ]
        refine takeH (i := 7) (d := some 57) (v := .pointer (some ⟨b, 0, none⟩)) rfl rfl (by kernel_rfl) (by kernel_rfl) (by kernel_rfl) (fun _ _ _ h => h) (Or.inl ⟨by rfl, fun w' _ => by go_simp⟩) hS ?_
        try simp only [Act.put, List.setIfInBounds_toArray, List.set_cons_zero, List.set_cons_succ]
        refine takeH (i := 8) (d := some 58) (v := .pointer (some ⟨b, 0, none⟩)) rfl rfl (by kernel_rfl) (by kernel_rfl) (by kernel_rfl) (fun _ _ _ h => h) (Or.inl ⟨by rfl, fun w' _ => by go_simp⟩) hS ?_
        try simp only [Act.put, List.setIfInBounds_toArray, List.set_cons_zero, List.set_cons_succ]
        refine takeH (i := 9) (d := some 59) (v := .pointer (some ⟨b, 2, none⟩)) rfl rfl (by kernel_rfl) (by kernel_rfl) (by kernel_rfl) (fun _ _ _ h => h) (Or.inl ⟨by rfl, fun w' _ => by go_simp⟩) hS ?_
        try simp only [Act.put, List.setIfInBounds_toArray, List.set_cons_zero, List.set_cons_succ]
        refine takeH (i := 11) (d := some 61) (v := encS [c]) rfl rfl (by kernel_rfl) (by kernel_rfl) (by kernel_rfl) (fun _ _ _ h => h) (Or.inl ⟨by rfl, fun w' _ => by go_simp⟩) hS ?_
        try simp only [Act.put, List.setIfInBounds_toArray, List.set_cons_zero, List.set_cons_succ]
        refine takeH (i := 12) (d := some 62) (v := .int .u8 c.toNat) rfl rfl (by kernel_rfl) (by kernel_rfl) (by kernel_rfl) (fun _ _ _ h => h) (Or.inl ⟨by rfl, fun w' _ => by go_simp⟩) hS ?_
        try simp only [Act.put, List.setIfInBounds_toArray, List.set_cons_zero, List.set_cons_succ]
        refine wpAnyH_ready (rs := [5, 10]) (by kernel_rfl) (by simp) (AllReadyH.cons rfl (fun K hK => ?_) (AllReadyH.cons rfl (fun K hK => ?_) AllReadyH.nil))
        · skip
          go_simp
          refine hK.out _ _ hS (fun _ => ?_)
          clear hK K
          try simp only [Act.put, List.setIfInBounds_toArray, List.set_cons_zero, List.set_cons_succ]
          refine wpAnyH_ready (rs := [10]) (by kernel_rfl) (by simp) (AllReadyH.cons rfl (fun K hK => ?_) AllReadyH.nil)
          go_simp
          go_at_call 15
          refine cS.mono ?_
          rintro e w7 ⟨rfl, hbb7, ho7⟩
          have hbk7 : w7.heap[b]? = some (.cells (plC f (k + g.length + d.length + 1) p v cv false) 56 (0, 0)) := hbb7.trans HBK.out
          have hrow7 := ho7.row HR6.out ne_cv_u8 HNE.out
          have hfb7 : w7.heap[N]? = some (.cells #[.int .i64 m, .bool l45, .bool false] 60 (0, 0)) := (ho7.block N (lt_of_block HFB.out) hnb (.inr ⟨_, _, _, HFB.out, ne_fd_u8⟩)).trans HFB.out
          have hS7 : Cells [(⟨N, 0, none⟩, .int .i64 m), (⟨N, 1, none⟩, .bool l45), (⟨N, 2, none⟩, .bool false)] w7 := cells3 (Lib.cell_of_heap hfb7 0) (Lib.cell_of_heap hfb7 1) (Lib.cell_of_heap hfb7 2)
          have x47 : w7.cell? ⟨b, 4, none⟩ = some cv := Lib.cell_of_heap hbk7 4
          have x47a : (w7.alloc (.cells #[.int .i64 m, .bool l45, .bool false, encS acc, .int .u8 c.toNat] 62)).cell? ⟨b, 4, none⟩ = some cv := Lib.cell_of_heap ((Below.heap_alloc w7 _ b (lt_of_block hbk7)).trans hbk7) 4
          have hs7 : W6.heap.size ≤ w7.heap.size := ho7.size
          have HBK7 := hid hbk7
          have HFB7 := hid hfb7
          clear hbk7 hfb7
          go_wp2_with fail
          refine hK.out _ _ hS7 (fun _ => ?_)
          clear hK K
          try simp only [Act.put, List.setIfInBounds_toArray, List.set_cons_zero, List.set_cons_succ]
          refine takeH (i := 13) (d := some 63) (v := .agg #[.int .i64 m, .bool l45, .bool false, encS acc, .int .u8 c.toNat]) rfl rfl (by kernel_rfl) (by kernel_rfl) (by kernel_rfl) (fun _ _ _ h => h) (Or.inl ⟨by rfl, fun w' _ => by go_simp⟩) hS7 ?_
          try simp only [Act.put, List.setIfInBounds_toArray, List.set_cons_zero, List.set_cons_succ]
          refine wpAnyH_ready (rs := [14]) (by kernel_rfl) (by simp) (AllReadyH.cons rfl (fun K hK => ?_) AllReadyH.nil)
          go_simp
          refine hK.out _ _ (hS7.below ((Below.refl _ _).alloc (Nat.le_refl _) _)) (fun _ => ?_)
          clear hK K
          try simp only [Act.put, List.setIfInBounds_toArray, List.set_cons_zero, List.set_cons_succ]
          refine wpAnyH_ready (rs := [15]) (by kernel_rfl) (by simp) (AllReadyH.cons rfl (fun K hK => ?_) AllReadyH.nil)
          refine step_append_lies _ (by rfl) _ _ _ (by rfl) B 62 i0 (.agg #[.int .i64 0, .bool false, .bool false, .string .empty, .int .u8 0]) 5 40 Tryz.underlying30 hi hz0 hz1 hz2 rfl (by omega) cv cvs.length (cvsV cvs) (by rfl) (hrow7.alloc _) ⟨w7.heap.size, 0, none⟩ 1 1 [.int .i64 m, .bool l45, .bool false, encS acc, .int .u8 c.toNat] (by rfl) (by rfl) (World.news_of_block (cs := #[.int .i64 m, .bool l45, .bool false, encS acc, .int .u8 c.toNat]) (t := 62) (fr := (0, 0)) (heap_alloc_new w7 _)) (by simp [Value.oneCell']) (by omega) (by unfold maxLen; omega) (by omega) (by simp; omega) (w7.heap.size + 1) (by simp) ?_
          intro gg cap w8 hown8 hg8 _ _
          have hbk8 : w8.heap[b]? = some (.cells (plC f (k + g.length + d.length + 1) p v cv false) 56 (0, 0)) := (hg8.block b (Nat.lt_of_lt_of_le (lt_of_block HBK7.out) (by simp)) (fun e => ownBlock_neE hrow7 HBK7.out ne_pl_cv e.symm)).trans ((Below.heap_alloc w7 _ b (lt_of_block HBK7.out)).trans HBK7.out)
          have hS8 := cells_grown (hS7.below ((Below.refl _ _).alloc (Nat.le_refl _) _)) hg8 (fun e => ownBlock_neE hrow7 HFB7.out ne_fd_cv e.symm)
          have x48 : w8.cell? ⟨b, 4, none⟩ = some cv := Lib.cell_of_heap hbk8 4
          have f48 : w8.frozen? ⟨b, 4, none⟩ = false := Lib.frozen_of_heap hbk8 4
          have HBK8 := hid hbk8
          clear hbk8
          change K (Act.put _ (some 65) _) _
          refine hK.out _ _ hS8 (fun _ => ?_)
          clear hK K
          try simp only [Act.put, List.setIfInBounds_toArray, List.set_cons_zero, List.set_cons_succ]
          refine takeH (i := 16) (d := some 66) (v := .pointer (some ⟨b, 0, none⟩)) rfl rfl (by kernel_rfl) (by kernel_rfl) (by kernel_rfl) (fun _ _ _ h => h) (Or.inl ⟨by rfl, fun w' _ => by go_simp⟩) hS8 ?_
          try simp only [Act.put, List.setIfInBounds_toArray, List.set_cons_zero, List.set_cons_succ]
          refine takeH (i := 17) (d := some 67) (v := .pointer (some ⟨b, 4, none⟩)) rfl rfl (by kernel_rfl) (by kernel_rfl) (by kernel_rfl) (fun _ _ _ h => h) (Or.inl ⟨by rfl, fun w' _ => by go_simp⟩) hS8 ?_
          try simp only [Act.put, List.setIfInBounds_toArray, List.set_cons_zero, List.set_cons_succ]
          refine takeH (i := 18) (d := some 68) (v := .pointer (some ⟨b, 4, none⟩)) rfl rfl (by kernel_rfl) (by kernel_rfl) (by kernel_rfl) (fun _ _ _ h => h) (Or.inl ⟨by rfl, fun w' _ => by go_simp⟩) hS8 ?_
          try simp only [Act.put, List.setIfInBounds_toArray, List.set_cons_zero, List.set_cons_succ]
          refine wpAnyH_ready (rs := [19]) (by kernel_rfl) (by simp) (AllReadyH.cons rfl (fun K hK => ?_) AllReadyH.nil)
          go_simp
          refine hK.out _ _ (cells_set hS8 hnb _) (fun _ => ?_)
          clear hK K
          try simp only [Act.put, List.setIfInBounds_toArray, List.set_cons_zero, List.set_cons_succ]
          refine wpAnyH_done (by kernel_rfl) ?_ _
          have hown9 : w8.ownsRow B 62 5 (.slice (some ⟨gg, 0, none⟩) (cvs.length + 1) cap) (cvs ++ [CN]).length (cvsV (cvs ++ [CN])) := by
            unfold cvsV at hown8 ⊢
            rw [List.flatMap_append, List.length_append, List.flatMap_cons, List.flatMap_nil, List.append_nil, HCV.out]
            exact hown8
          have hb9 := heap_setCell_same w8 b 4 _ 56 (.slice (some ⟨gg, 0, none⟩) (cvs.length + 1) cap) HBK8.out
          have hB7 : Below B W6 w7 := ((Below.refl B W6).drew).trans (ho7.below hBb (by show B ≤ W6.heap.size; omega))
          have hB8 : Below B W6 (w8.setCell ⟨b, 4, none⟩ (.slice (some ⟨gg, 0, none⟩) (cvs.length + 1) cap)) := ((hB7.alloc (by omega) _).grown hg8 (by simp; omega) (fun j e => (hrow7.lt j e).1)).setCell hBb _
          have cR := breset_any 56 B b 2 _ _ ne_pl_u8 hBb hb9 (by simp [plC])
          have hs8 : B ≤ w8.heap.size := by have := hB8.size; simp at this; omega
          have HF := hid (And.intro hown9 (And.intro HBK8.out (And.intro hs8 (HB6.out.trans hB8))))
          clear hown8 hown9 hg8 hrow7 hb9 hB7 hB8 ho7 hbb7 cS hS hS7 hS8 x47 x47a x48 f48 x4
          go_wp2_with fail
          refine cR.mono ?_
          rintro e w9 ⟨rfl, hR, ho9⟩
          have HG2 := hid (And.intro (PlAt.added HF.out.2.1 HF.out.1 HF.out.2.2.1 hR ho9) (HF.out.2.2.2.trans (ho9.below hBb (by simpa using HF.out.2.2.1))))
          clear hR ho9 cR
          go_wp2_with fail
          go_end0
          exact ⟨rfl, HP.out _ HG2.out.1, HG2.out.2⟩
        · skip
          go_simp
          go_at_call 15
          refine cS.mono ?_
          rintro e w7 ⟨rfl, hbb7, ho7⟩
          have hbk7 : w7.heap[b]? = some (.cells (plC f (k + g.length + d.length + 1) p v cv false) 56 (0, 0)) := hbb7.trans HBK.out
          have hrow7 := ho7.row HR6.out ne_cv_u8 HNE.out
          have hfb7 : w7.heap[N]? = some (.cells #[.int .i64 m, .bool l45, .bool false] 60 (0, 0)) := (ho7.block N (lt_of_block HFB.out) hnb (.inr ⟨_, _, _, HFB.out, ne_fd_u8⟩)).trans HFB.out
          have hS7 : Cells [(⟨N, 0, none⟩, .int .i64 m), (⟨N, 1, none⟩, .bool l45), (⟨N, 2, none⟩, .bool false)] w7 := cells3 (Lib.cell_of_heap hfb7 0) (Lib.cell_of_heap hfb7 1) (Lib.cell_of_heap hfb7 2)
          have x47 : w7.cell? ⟨b, 4, none⟩ = some cv := Lib.cell_of_heap hbk7 4
          have x47a : (w7.alloc (.cells #[.int .i64 m, .bool l45, .bool false, encS acc, .int .u8 c.toNat] 62)).cell? ⟨b, 4, none⟩ = some cv := Lib.cell_of_heap ((Below.heap_alloc w7 _ b (lt_of_block hbk7)).trans hbk7) 4
          have hs7 : W6.heap.size ≤ w7.heap.size := ho7.size
          have HBK7 := hid hbk7
          have HFB7 := hid hfb7
          clear hbk7 hfb7
          go_wp2_with fail
          refine hK.out _ _ hS7 (fun _ => ?_)
          clear hK K
          try simp only [Act.put, List.setIfInBounds_toArray, List.set_cons_zero, List.set_cons_succ]
          refine takeH (i := 13) (d := some 63) (v := .agg #[.int .i64 m, .bool l45, .bool false, encS acc, .int .u8 c.toNat]) rfl rfl (by kernel_rfl) (by kernel_rfl) (by kernel_rfl) (fun _ _ _ h => h) (Or.inl ⟨by rfl, fun w' _ => by go_simp⟩) hS7 ?_
          try simp only [Act.put, List.setIfInBounds_toArray, List.set_cons_zero, List.set_cons_succ]
          refine wpAnyH_ready (rs := [5, 14]) (by kernel_rfl) (by simp) (AllReadyH.cons rfl (fun K hK => ?_) (AllReadyH.cons rfl (fun K hK => ?_) AllReadyH.nil))
          · skip
            go_simp
            refine hK.out _ _ hS7 (fun _ => ?_)
            clear hK K
            try simp only [Act.put, List.setIfInBounds_toArray, List.set_cons_zero, List.set_cons_succ]
            refine wpAnyH_ready (rs := [14]) (by kernel_rfl) (by simp) (AllReadyH.cons rfl (fun K hK => ?_) AllReadyH.nil)
            go_simp
            refine hK.out _ _ (hS7.below ((Below.refl _ _).alloc (Nat.le_refl _) _)) (fun _ => ?_)
            clear hK K
            try simp only [Act.put, List.setIfInBounds_toArray, List.set_cons_zero, List.set_cons_succ]
            refine wpAnyH_ready (rs := [15]) (by kernel_rfl) (by simp) (AllReadyH.cons rfl (fun K hK => ?_) AllReadyH.nil)
            refine step_append_lies _ (by rfl) _ _ _ (by rfl) B 62 i0 (.agg #[.int .i64 0, .bool false, .bool false, .string .empty, .int .u8 0]) 5 40 Tryz.underlying30 hi hz0 hz1 hz2 rfl (by omega) cv cvs.length (cvsV cvs) (by rfl) (hrow7.alloc _) ⟨w7.heap.size, 0, none⟩ 1 1 [.int .i64 m, .bool l45, .bool false, encS acc, .int .u8 c.toNat] (by rfl) (by rfl) (World.news_of_block (cs := #[.int .i64 m, .bool l45, .bool false, encS acc, .int .u8 c.toNat]) (t := 62) (fr := (0, 0)) (heap_alloc_new w7 _)) (by simp [Value.oneCell']) (by omega) (by unfold maxLen; omega) (by omega) (by simp; omega) (w7.heap.size + 1) (by simp) ?_
            intro gg cap w8 hown8 hg8 _ _
            have hbk8 : w8.heap[b]? = some (.cells (plC f (k + g.length + d.length + 1) p v cv false) 56 (0, 0)) := (hg8.block b (Nat.lt_of_lt_of_le (lt_of_block HBK7.out) (by simp)) (fun e => ownBlock_neE hrow7 HBK7.out ne_pl_cv e.symm)).trans ((Below.heap_alloc w7 _ b (lt_of_block HBK7.out)).trans HBK7.out)
            have hS8 := cells_grown (hS7.below ((Below.refl _ _).alloc (Nat.le_refl _) _)) hg8 (fun e => ownBlock_neE hrow7 HFB7.out ne_fd_cv e.symm)
            have x48 : w8.cell? ⟨b, 4, none⟩ = some cv := Lib.cell_of_heap hbk8 4
            have f48 : w8.frozen? ⟨b, 4, none⟩ = false := Lib.frozen_of_heap hbk8 4
            have HBK8 := hid hbk8
            clear hbk8
            change K (Act.put _ (some 65) _) _
            refine hK.out _ _ hS8 (fun _ => ?_)
            clear hK K
            try simp only [Act.put, List.setIfInBounds_toArray, List.set_cons_zero, List.set_cons_succ]
            refine takeH (i := 16) (d := some 66) (v := .pointer (some ⟨b, 0, none⟩)) rfl rfl (by kernel_rfl) (by kernel_rfl) (by kernel_rfl) (fun _ _ _ h => h) (Or.inl ⟨by rfl, fun w' _ => by go_simp⟩) hS8 ?_
            try simp only [Act.put, List.setIfInBounds_toArray, List.set_cons_zero, List.set_cons_succ]
            refine takeH (i := 17) (d := some 67) (v := .pointer (some ⟨b, 4, none⟩)) rfl rfl (by kernel_rfl) (by kernel_rfl) (by kernel_rfl) (fun _ _ _ h => h) (Or.inl ⟨by rfl, fun w' _ => by go_simp⟩) hS8 ?_
            try simp only [Act.put, List.setIfInBounds_toArray, List.set_cons_zero, List.set_cons_succ]
            refine takeH (i := 18) (d := some 68) (v := .pointer (some ⟨b, 4, none⟩)) rfl rfl (by kernel_rfl) (by kernel_rfl) (by kernel_rfl) (fun _ _ _ h => h) (Or.inl ⟨by rfl, fun w' _ => by go_simp⟩) hS8 ?_
            try simp only [Act.put, List.setIfInBounds_toArray, List.set_cons_zero, List.set_cons_succ]
            refine wpAnyH_ready (rs := [19]) (by kernel_rfl) (by simp) (AllReadyH.cons rfl (fun K hK => ?_) AllReadyH.nil)
            go_simp
            refine hK.out _ _ (cells_set hS8 hnb _) (fun _ => ?_)
            clear hK K
            try simp only [Act.put, List.setIfInBounds_toArray, List.set_cons_zero, List.set_cons_succ]
            refine wpAnyH_done (by kernel_rfl) ?_ _
            have hown9 : w8.ownsRow B 62 5 (.slice (some ⟨gg, 0, none⟩) (cvs.length + 1) cap) (cvs ++ [CN]).length (cvsV (cvs ++ [CN])) := by
              unfold cvsV at hown8 ⊢
              rw [List.flatMap_append, List.length_append, List.flatMap_cons, List.flatMap_nil, List.append_nil, HCV.out]
              exact hown8
            have hb9 := heap_setCell_same w8 b 4 _ 56 (.slice (some ⟨gg, 0, none⟩) (cvs.length + 1) cap) HBK8.out
            have hB7 : Below B W6 w7 := ((Below.refl B W6).drew).trans (ho7.below hBb (by show B ≤ W6.heap.size; omega))
            have hB8 : Below B W6 (w8.setCell ⟨b, 4, none⟩ (.slice (some ⟨gg, 0, none⟩) (cvs.length + 1) cap)) := ((hB7.alloc (by omega) _).grown hg8 (by simp; omega) (fun j e => (hrow7.lt j e).1)).setCell hBb _
            have cR := breset_any 56 B b 2 _ _ ne_pl_u8 hBb hb9 (by simp [plC])
            have hs8 : B ≤ w8.heap.size := by have := hB8.size; simp at this; omega
            have HF := hid (And.intro hown9 (And.intro HBK8.out (And.intro hs8 (HB6.out.trans hB8))))
            clear hown8 hown9 hg8 hrow7 hb9 hB7 hB8 ho7 hbb7 cS hS hS7 hS8 x47 x47a x48 f48 x4
            go_wp2_with fail
            refine cR.mono ?_
            rintro e w9 ⟨rfl, hR, ho9⟩
            have HG2 := hid (And.intro (PlAt.added HF.out.2.1 HF.out.1 HF.out.2.2.1 hR ho9) (HF.out.2.2.2.trans (ho9.below hBb (by simpa using HF.out.2.2.1))))
            clear hR ho9 cR
            go_wp2_with fail
            go_end0
            exact ⟨rfl, HP.out _ HG2.out.1, HG2.out.2⟩
          · skip
            go_simp
            refine hK.out _ _ (hS7.below ((Below.refl _ _).alloc (Nat.le_refl _) _)) (fun _ => ?_)
            clear hK K
            try simp only [Act.put, List.setIfInBounds_toArray, List.set_cons_zero, List.set_cons_succ]
            refine wpAnyH_ready (rs := [5]) (by kernel_rfl) (by simp) (AllReadyH.cons rfl (fun K hK => ?_) AllReadyH.nil)
            go_simp
            refine hK.out _ _ (hS7.below ((Below.refl _ _).alloc (Nat.le_refl _) _)) (fun _ => ?_)
            clear hK K
            try simp only [Act.put, List.setIfInBounds_toArray, List.set_cons_zero, List.set_cons_succ]
            refine wpAnyH_ready (rs := [15]) (by kernel_rfl) (by simp) (AllReadyH.cons rfl (fun K hK => ?_) AllReadyH.nil)
            refine step_append_lies _ (by rfl) _ _ _ (by rfl) B 62 i0 (.agg #[.int .i64 0, .bool false, .bool false, .string .empty, .int .u8 0]) 5 40 Tryz.underlying30 hi hz0 hz1 hz2 rfl (by omega) cv cvs.length (cvsV cvs) (by rfl) (hrow7.alloc _) ⟨w7.heap.size, 0, none⟩ 1 1 [.int .i64 m, .bool l45, .bool false, encS acc, .int .u8 c.toNat] (by rfl) (by rfl) (World.news_of_block (cs := #[.int .i64 m, .bool l45, .bool false, encS acc, .int .u8 c.toNat]) (t := 62) (fr := (0, 0)) (heap_alloc_new w7 _)) (by simp [Value.oneCell']) (by omega) (by unfold maxLen; omega) (by omega) (by simp; omega) (w7.heap.size + 1) (by simp) ?_
            intro gg cap w8 hown8 hg8 _ _
            have hbk8 : w8.heap[b]? = some (.cells (plC f (k + g.length + d.length + 1) p v cv false) 56 (0, 0)) := (hg8.block b (Nat.lt_of_lt_of_le (lt_of_block HBK7.out) (by simp)) (fun e => ownBlock_neE hrow7 HBK7.out ne_pl_cv e.symm)).trans ((Below.heap_alloc w7 _ b (lt_of_block HBK7.out)).trans HBK7.out)
            have hS8 := cells_grown (hS7.below ((Below.refl _ _).alloc (Nat.le_refl _) _)) hg8 (fun e => ownBlock_neE hrow7 HFB7.out ne_fd_cv e.symm)
            have x48 : w8.cell? ⟨b, 4, none⟩ = some cv := Lib.cell_of_heap hbk8 4
            have f48 : w8.frozen? ⟨b, 4, none⟩ = false := Lib.frozen_of_heap hbk8 4
            have HBK8 := hid hbk8
            clear hbk8
            change K (Act.put _ (some 65) _) _
            refine hK.out _ _ hS8 (fun _ => ?_)
            clear hK K
            try simp only [Act.put, List.setIfInBounds_toArray, List.set_cons_zero, List.set_cons_succ]
            refine takeH (i := 16) (d := some 66) (v := .pointer (some ⟨b, 0, none⟩)) rfl rfl (by kernel_rfl) (by kernel_rfl) (by kernel_rfl) (fun _ _ _ h => h) (Or.inl ⟨by rfl, fun w' _ => by go_simp⟩) hS8 ?_
            try simp only [Act.put, List.setIfInBounds_toArray, List.set_cons_zero, List.set_cons_succ]
            refine takeH (i := 17) (d := some 67) (v := .pointer (some ⟨b, 4, none⟩)) rfl rfl (by kernel_rfl) (by kernel_rfl) (by kernel_rfl) (fun _ _ _ h => h) (Or.inl ⟨by rfl, fun w' _ => by go_simp⟩) hS8 ?_
            try simp only [Act.put, List.setIfInBounds_toArray, List.set_cons_zero, List.set_cons_succ]
            refine takeH (i := 18) (d := some 68) (v := .pointer (some ⟨b, 4, none⟩)) rfl rfl (by kernel_rfl) (by kernel_rfl) (by kernel_rfl) (fun _ _ _ h => h) (Or.inl ⟨by rfl, fun w' _ => by go_simp⟩) hS8 ?_
            try simp only [Act.put, List.setIfInBounds_toArray, List.set_cons_zero, List.set_cons_succ]
            refine wpAnyH_ready (rs := [19]) (by kernel_rfl) (by simp) (AllReadyH.cons rfl (fun K hK => ?_) AllReadyH.nil)
            go_simp
            refine hK.out _ _ (cells_set hS8 hnb _) (fun _ => ?_)
            clear hK K
            try simp only [Act.put, List.setIfInBounds_toArray, List.set_cons_zero, List.set_cons_succ]
            refine wpAnyH_done (by kernel_rfl) ?_ _
            have hown9 : w8.ownsRow B 62 5 (.slice (some ⟨gg, 0, none⟩) (cvs.length + 1) cap) (cvs ++ [CN]).length (cvsV (cvs ++ [CN])) := by
              unfold cvsV at hown8 ⊢
              rw [List.flatMap_append, List.length_append, List.flatMap_cons, List.flatMap_nil, List.append_nil, HCV.out]
              exact hown8
            have hb9 := heap_setCell_same w8 b 4 _ 56 (.slice (some ⟨gg, 0, none⟩) (cvs.length + 1) cap) HBK8.out
            have hB7 : Below B W6 w7 := ((Below.refl B W6).drew).trans (ho7.below hBb (by show B ≤ W6.heap.size; omega))
            have hB8 : Below B W6 (w8.setCell ⟨b, 4, none⟩ (.slice (some ⟨gg, 0, none⟩) (cvs.length + 1) cap)) := ((hB7.alloc (by omega) _).grown hg8 (by simp; omega) (fun j e => (hrow7.lt j e).1)).setCell hBb _
            have cR := breset_any 56 B b 2 _ _ ne_pl_u8 hBb hb9 (by simp [plC])
            have hs8 : B ≤ w8.heap.size := by have := hB8.size; simp at this; omega
            have HF := hid (And.intro hown9 (And.intro HBK8.out (And.intro hs8 (HB6.out.trans hB8))))
            clear hown8 hown9 hg8 hrow7 hb9 hB7 hB8 ho7 hbb7 cS hS hS7 hS8 x47 x47a x48 f48 x4
            go_wp2_with fail
            refine cR.mono ?_
            rintro e w9 ⟨rfl, hR, ho9⟩
            have HG2 := hid (And.intro (PlAt.added HF.out.2.1 HF.out.1 HF.out.2.2.1 hR ho9) (HF.out.2.2.2.trans (ho9.below hBb (by simpa using HF.out.2.2.1))))
            clear hR ho9 cR
            go_wp2_with fail
            go_end0
            exact ⟨rfl, HP.out _ HG2.out.1, HG2.out.2⟩
end Go.Proofs.YtckmgcdiclkoeaaGreatDoor
namespace Go.Proofs.YtckmgcdiclkoeaaGreatDoor
open Go.RowKit
open Go.Lib (hid)

def Pl.pre (cs : List Cv) (p : Pl) : Pl := ⟨cs ++ p.cvs, p.behind, p.faulty⟩
/-- What a planner at a place of its format will have planned. -/
def PlEq (f : List UInt8) (k : Nat) (acc : List UInt8) (cvs : List Cv) (fl : Bool) : Prop := planL f [] = if fl then ⟨cvs, acc, true⟩ else (planL (f.drop k) acc).pre cvs
theorem plan_lit (c : UInt8) (t acc : List UInt8) (h : c ≠ 37) : planL (c :: t) acc = planL (t.drop ((litT c t).2 - 1)) (acc ++ (litT c t).1) := by
  rw [planL_cons]
  unfold litT
  split
  · rfl
  · simp
theorem PlEq.lit {f acc t : List UInt8} {c : UInt8} {k : Nat} {cvs : List Cv} (h : PlEq f k acc cvs false) (hd : f.drop k = c :: t) (hc : c ≠ 37) : PlEq f (k + (litT c t).2) (acc ++ (litT c t).1) cvs false := by
  unfold PlEq at h ⊢
  rw [h, hd, if_neg (by simp), if_neg (by simp), plan_lit c t acc hc]
  have h1 := (litT_len c t).1
  have ht : t = f.drop (k + 1) := by rw [← List.tail_drop, hd]; rfl
  have e1 : t.drop ((litT c t).2 - 1) = f.drop (k + (litT c t).2) := by
    conv => lhs; arg 2; rw [ht]
    rw [List.drop_drop, show k + 1 + ((litT c t).2 - 1) = k + (litT c t).2 by omega]
  rw [e1]
/-- What percent leaves, planned. -/
theorem PcPost.eq {B b k : Nat} {f t acc : List UInt8} {cvs : List Cv} {w' : World} (h : PcPost B b f (k + 1) t acc cvs w') (hd : f.drop k = 37 :: t) (hk : k < f.length) (ha : acc.length ≤ k) (hc : cvs.length ≤ k) (he : PlEq f k acc cvs false) :
    ∃ k' acc' cvs' fl', k' ≤ f.length ∧ (fl' = false → k < k') ∧ acc'.length ≤ f.length ∧ (fl' = false → acc'.length ≤ k') ∧ cvs'.length ≤ f.length ∧ (fl' = false → cvs'.length ≤ k') ∧ PlAt B b f k' acc' cvs' fl' w' ∧ PlEq f k' acc' cvs' fl' := by
  have ht : t = f.drop (k + 1) := by rw [← List.tail_drop, hd]; rfl
  have htl : t.length + k + 1 = f.length := by
    have := congrArg List.length hd
    rw [List.length_drop, List.length_cons] at this
    omega
  have hpl : planL (37 :: t) acc = if (specL t).letter = 0 then ⟨[], acc, true⟩
      else if (specL t).letter = 37 then planL (t.drop ((specL t).size - 1)) (acc ++ [37])
      else (planL (t.drop ((specL t).size - 1)) []).more ⟨specL t, acc⟩ := by
    rw [planL_cons, if_neg (show ¬ ((37 : UInt8) = 92 ∧ 0 < (oneL t).2) from fun e => absurd e.1 (by decide)), if_neg (show ¬ (37 : UInt8) ≠ 37 from fun e => e rfl)]
  have hdr : ∀ j, 1 ≤ j → t.drop (j - 1) = f.drop (k + j) := fun j hj => by
    rw [ht, List.drop_drop, show k + 1 + (j - 1) = k + j by omega]
  have hsz := spec_size t
  unfold PcPost at h
  unfold PlEq at he
  rw [hd, if_neg (by simp), hpl] at he
  by_cases h0 : (specL t).letter = 0
  · rw [if_pos h0] at h he
    obtain ⟨k', hk', h'⟩ := h
    exact ⟨k', acc, cvs, true, hk', by simp, by omega, by simp, by omega, by simp, h', by unfold PlEq; rw [he, if_pos rfl]; simp [Pl.pre]⟩
  · rw [if_neg h0] at h he
    rcases hsz with hsz | ⟨z1, z2, z3, -⟩
    · exact absurd hsz h0
    have hkk : k + 1 + (specL t).size - 1 = k + (specL t).size := by omega
    rw [hkk] at h
    by_cases h37 : (specL t).letter = 37
    · rw [if_pos h37] at h he
      refine ⟨k + (specL t).size, acc ++ [37], cvs, false, by omega, by omega, by simp; omega, by simp; omega, by omega, by omega, h, ?_⟩
      unfold PlEq
      rw [he, if_neg (by simp), hdr _ (by omega)]
    · rw [if_neg h37] at h he
      refine ⟨k + (specL t).size, [], cvs ++ [⟨specL t, acc⟩], false, by omega, by omega, by simp, by simp, by simp; omega, by simp; omega, h, ?_⟩
      unfold PlEq
      rw [he, if_neg (by simp), hdr _ (by omega)]
      simp [Pl.pre, Pl.more]
theorem plan_size : (Tryz.prog.info? 32).map (·.size) = some 3 := by kernel_rfl
theorem ret_plan {fn : Func} {p : Tmp} (h : fn.results = #[.cell p 32]) {R : Ending → World → Prop} {a : Act} {w : World} {g : Nat} {x y z : Value} (hp : a.tmps.getD p undef = .pointer (some ⟨g, 0, none⟩))
    (hh : w.heap[g]? = some (.cells #[x, y, z] 32 (0, 0))) (hd : a.defers = []) (hR : R (.returned (.agg #[x, y, z])) w) : bodyPost Tryz.prog fn R .ret a w :=
  bodyPost_ret (results_cell_row h _ _ g 32 #[x, y, z] (0, 0) _ hp hh Tryz.underlying32 rfl plan_size) hd hR

/-- The end: what was planned, laid into the result. -/
theorem plan_end {N k : Nat} {f acc : List UInt8} {cvs : List Cv} {fl : Bool} {p v cv : Value} {w w3 : World} (hbk : w3.heap[N + 1]? = some (.cells (plC f k p v cv fl) 56 (0, 0))) (hrow : w3.ownsRow (N + 1) 62 5 cv cvs.length (cvsV cvs))
    (hn : w3.heap[N]? = some (.cells #[.slice none 0 0, encS [], .bool false] 32 (0, 0))) (hB : Below N w w3) :
    ((((w3.setCell ⟨N + 1, 5, none⟩ (encS acc)).setCell ⟨N, 0, none⟩ cv).setCell ⟨N, 1, none⟩ (encS acc)).setCell ⟨N, 2, none⟩ (.bool fl)).heap[N]? = some (.cells #[cv, encS acc, .bool fl] 32 (0, 0)) ∧
    ((((w3.setCell ⟨N + 1, 5, none⟩ (encS acc)).setCell ⟨N, 0, none⟩ cv).setCell ⟨N, 1, none⟩ (encS acc)).setCell ⟨N, 2, none⟩ (.bool fl)).ownsRow N 62 5 cv cvs.length (cvsV cvs) ∧
    Below N w ((((w3.setCell ⟨N + 1, 5, none⟩ (encS acc)).setCell ⟨N, 0, none⟩ cv).setCell ⟨N, 1, none⟩ (encS acc)).setCell ⟨N, 2, none⟩ (.bool fl)) := by
  have hne1 := ownBlock_neE hrow hbk ne_pl_cv
  have hne2 := ownBlock_neE hrow hn (show 32 ≠ 62 by decide)
  have r0 : w3.ownsRow N 62 5 cv cvs.length (cvsV cvs) := by
    refine ⟨hrow.1, ?_⟩
    rcases hrow.2 with h | ⟨g, cap, cur, e1, e2, e3⟩
    · exact .inl h
    · exact .inr ⟨g, cap, cur, e1, by omega, e3⟩
  have h1 : (w3.setCell ⟨N + 1, 5, none⟩ (encS acc)).heap[N]? = some (.cells #[.slice none 0 0, encS [], .bool false] 32 (0, 0)) := (Below.heap_setCell _ _ _ _ (by simp)).trans hn
  have r1 := ownsRow_setCell_other (a := ⟨N + 1, 5, none⟩) r0 hne1 (encS acc)
  have b1 := hB.setCell (p := ⟨N + 1, 5, none⟩) (Nat.le_succ N) (encS acc)
  generalize w3.setCell ⟨N + 1, 5, none⟩ (encS acc) = V1 at *
  have h2 := heap_setCell_same _ N 0 _ _ cv h1
  have r2 := ownsRow_setCell_other (a := ⟨N, 0, none⟩) r1 hne2 cv
  have b2 := b1.setCell (p := ⟨N, 0, none⟩) (Nat.le_refl N) cv
  generalize V1.setCell ⟨N, 0, none⟩ cv = V2 at *
  have h3 := heap_setCell_same _ N 1 _ _ (encS acc) h2
  have r3 := ownsRow_setCell_other (a := ⟨N, 1, none⟩) r2 hne2 (encS acc)
  have b3 := b2.setCell (p := ⟨N, 1, none⟩) (Nat.le_refl N) (encS acc)
  generalize V2.setCell ⟨N, 1, none⟩ (encS acc) = V3 at *
  have h4 := heap_setCell_same _ N 2 _ _ (.bool fl) h3
  have r4 := ownsRow_setCell_other (a := ⟨N, 2, none⟩) r3 hne2 (.bool fl)
  have b4 := b3.setCell (p := ⟨N, 2, none⟩) (Nat.le_refl N) (.bool fl)
  refine ⟨?_, r4, b4⟩
  rw [h4]
  simp

/-- What planned tells. -/
def PlanAt (w' : World) (N : Nat) (f : List UInt8) (v : Value) : Prop := ∃ A c, v = .agg #[.slice A (planL f []).cvs.length c, encS (planL f []).behind, .bool (planL f []).faulty] ∧ w'.ownsRow N 62 5 (.slice A (planL f []).cvs.length c) (planL f []).cvs.length (cvsV (planL f []).cvs)
theorem plan_post {N k : Nat} {f acc : List UInt8} {cvs : List Cv} {fl : Bool} {cv : Value} {W : World} (he : PlEq f k acc cvs fl) (hk : fl = false → k = f.length) (hr : W.ownsRow N 62 5 cv cvs.length (cvsV cvs)) : PlanAt W N f (.agg #[cv, encS acc, .bool fl]) := by
  have e : planL f [] = ⟨cvs, acc, fl⟩ := by
    unfold PlEq at he
    cases fl with
    | true => rw [he, if_pos rfl]
    | false => rw [he, if_neg (by simp), hk rfl, List.drop_length, planL_nil]; simp [Pl.pre]
  unfold PlanAt
  rw [e]
  rcases hr.2 with ⟨rfl, h0⟩ | ⟨g, cap, cur, rfl, h⟩
  · have : cvs = [] := List.eq_nil_of_length_eq_zero h0
    subst this
    exact ⟨none, 0, rfl, hr⟩
  · exact ⟨_, cap, rfl, hr⟩

set_option maxRecDepth 100000 in
set_option maxHeartbeats 2000000 in
theorem planned_any (f : List UInt8) (w : World) (hs : f.length ≤ 1073741824) :
    Calls Tryz.prog 13 #[encS f] w fun e w' => ∃ v, e = .returned v ∧ PlanAt w' w.heap.size f v ∧ Below w.heap.size w w' := by
  obtain ⟨N, hN⟩ : ∃ N, w.heap.size = N := ⟨_, rfl⟩
  have HN := hid hN
  obtain ⟨W1, hW1⟩ : ∃ W1, w.alloc (.cells #[.slice none 0 0, encS [], .bool false] 32) = W1 := ⟨_, rfl⟩
  have hs1 : W1.heap.size = N + 1 := by rw [← hW1, ← hN]; simp
  obtain ⟨W2, hW2⟩ : ∃ W2, W1.alloc (.cells #[encS f, .int .i64 0, .pointer none, .slice none 0 0, .slice none 0 0, encS [], .bool false] 56) = W2 := ⟨_, rfl⟩
  have hs2 : W2.heap.size = N + 2 := by rw [← hW2]; simp; omega
  have hr1 : W1.heap[N]? = some (.cells #[.slice none 0 0, encS [], .bool false] 32 (0, 0)) := by rw [← hW1, ← hN]; exact heap_alloc_new _ _
  have hr2 : W2.heap[N]? = some (.cells #[.slice none 0 0, encS [], .bool false] 32 (0, 0)) := by rw [← hW2]; exact (Below.heap_alloc _ _ _ (by omega)).trans hr1
  have ho2 : W2.heap[N + 1]? = some (.cells #[encS f, .int .i64 0, .pointer none, .slice none 0 0, .slice none 0 0, encS [], .bool false] 56 (0, 0)) := by rw [← hW2, ← hs1]; exact heap_alloc_new _ _
  have hB2 : Below N w W2 := by
    rw [← hW2, ← hW1]
    exact ((Below.refl _ _).alloc (by omega) _).alloc (by simp; omega) _
  have hP2 : PlAt (N + 1) (N + 1) f 0 [] [] false W2 := ⟨.pointer none, .slice none 0 0, .slice none 0 0, bld_new 56 W2 (N + 1) (N + 1) 2 _ ne_pl_u8 (Nat.le_refl _) ho2 rfl rfl, World.ownsRow_nil _ _ _ _, by omega⟩
  have HI := hid (And.intro hP2 (And.intro hr2 hB2))
  clear hr1 hr2 ho2 hB2 hs1 hs2 hP2
  subst hW2
  subst hW1
  go_enter Tryz.func13, Tryz.ntmps13
  go_wp2_with fail
  go_loopg [] (f.length + 1) (fun n wr => ∃ (k : Nat) (acc : List UInt8) (cvs : List Cv) (fl : Bool), k ≤ f.length ∧ (fl = false → k + n = f.length + 1) ∧ acc.length ≤ f.length ∧ (fl = false → acc.length ≤ k) ∧ cvs.length ≤ f.length ∧ (fl = false → cvs.length ≤ k) ∧ PlAt (N + 1) (N + 1) f k acc cvs fl wr ∧ Hid (PlEq f k acc cvs fl) ∧ wr.heap[N]? = some (.cells #[.slice none 0 0, encS [], .bool false] 32 (0, 0)) ∧ Hid (Below N w wr))
  case atStart => exact ⟨0, [], [], false, by omega, by omega, by simp, by simp, by simp, by simp, HI.out.1, hid (by unfold PlEq; rw [if_neg (by simp)]; simp [Pl.pre]), HI.out.2.1, hid HI.out.2.2⟩
  case round =>
    obtain ⟨k, acc, cvs, fl, hk, hkn, hal, hak, hcl, hck, hP, HE, hRN, HW⟩ := hrel
    have cM := hP.more
    have x6 := fun n => (hP.drewN n).c6
    have HPL := hid hP
    have HRN := hid hRN
    clear HI hP hRN
    -- the end, wherever the loop is left
    have hend : ∀ W : World, Below N w W → W.heap[N]? = some (.cells #[.slice none 0 0, encS [], .bool false] 32 (0, 0)) → PlAt (N + 1) (N + 1) f k acc cvs fl W → (fl = false → k = f.length) → ∃ p v A cc, 
        Calls Tryz.prog 15 #[.pointer (some ⟨N + 1, 2, none⟩)] W (fun e w' => e = .returned (encS acc) ∧ (w'.cell? ⟨N + 1, 4, none⟩ = some (.slice A cvs.length cc) ∧ w'.cell? ⟨N + 1, 5, none⟩ = some (encS []) ∧ w'.cell? ⟨N + 1, 6, none⟩ = some (.bool fl)) ∧ (w'.frozen? ⟨N + 1, 5, none⟩ = false ∧ w'.frozen? ⟨N, 0, none⟩ = false ∧ w'.frozen? ⟨N, 1, none⟩ = false ∧ w'.frozen? ⟨N, 2, none⟩ = false) ∧ (w'.cell? ⟨N, 0, none⟩ = some (.slice none 0 0) ∧ w'.cell? ⟨N, 1, none⟩ = some (encS []) ∧ w'.cell? ⟨N, 2, none⟩ = some (.bool false)) ∧
          Hid (w'.heap[N + 1]? = some (.cells (plC f k p v (.slice A cvs.length cc) fl) 56 (0, 0)) ∧ w'.ownsRow (N + 1) 62 5 (.slice A cvs.length cc) cvs.length (cvsV cvs) ∧ w'.heap[N]? = some (.cells #[.slice none 0 0, encS [], .bool false] 32 (0, 0)) ∧ Below N w w')) := fun W hBW hNW hPW _ => by
      obtain ⟨p, v, cv, h1, h2, h3⟩ := hPW
      obtain ⟨A, cc, rfl⟩ : ∃ A cc, cv = .slice A cvs.length cc := by
        rcases h2.2 with ⟨rfl, h0⟩ | ⟨g, cap, cur, rfl, -⟩
        · exact ⟨none, 0, by rw [h0]⟩
        · exact ⟨_, cap, rfl⟩
      refine ⟨p, v, A, cc, (btold_any 56 (N + 1) (N + 1) 2 _ acc W h1).mono ?_⟩
      rintro e w' ⟨rfl, hb, ho⟩
      have hb' := hb.trans h1.2.2.1
      have hn' := (ho.block N (lt_of_block hNW) (by omega) (.inl (by omega))).trans hNW
      exact ⟨rfl, ⟨Lib.cell_of_heap hb' 4, Lib.cell_of_heap hb' 5, Lib.cell_of_heap hb' 6⟩, ⟨Lib.frozen_of_heap hb' 5, Lib.frozen_of_heap hn' 0, Lib.frozen_of_heap hn' 1, Lib.frozen_of_heap hn' 2⟩, ⟨Lib.cell_of_heap hn' 0, Lib.cell_of_heap hn' 1, Lib.cell_of_heap hn' 2⟩, hid ⟨hb', ho.row h2 ne_cv_u8 (ownBlock_neE h2 h1.2.2.1 ne_pl_cv), hn', hBW.trans ((ho.below (Nat.le_refl _) h3).mono (by omega))⟩⟩
    by_cases hlt : k < f.length
    · rw [decide_eq_true hlt] at cM
      cases fl with
      | false =>
        have hd : f.drop k = f[k] :: f.drop (k + 1) := List.drop_eq_getElem_cons hlt
        obtain ⟨c, hc⟩ : ∃ c, f[k] = c := ⟨_, rfl⟩
        obtain ⟨t, ht⟩ : ∃ t, f.drop (k + 1) = t := ⟨_, rfl⟩
        rw [hc, ht] at hd
        have htl : t.length + k + 1 = f.length := by rw [← ht, List.length_drop]; omega
        have hR := fun n => (HPL.out.drewN n).run [37] 1 hk (by omega)
        rw [hd] at hR
        by_cases h37 : c = 37
        · subst h37
          have hr : runL [37] 1 (37 :: t) = [37] := by
            rcases run_one [37] (37 :: t) with ⟨-, h2⟩ | ⟨c, r', h1, -, h3⟩
            · exact absurd (h2 37 t rfl) (by decide)
            · rw [h3, (List.cons.inj h1).1]
          rw [hr] at hR
          have hak' := hak rfl
          have hck' := hck rfl
          have hkn' := hkn rfl
          clear hr hend hc hak hck hkn
          go_wp2_with fail
          refine cM.mono ?_
          rintro e w1 ⟨rfl, m, rfl⟩
          have x6 := x6 m
          have hR := hR m
          go_wp2_with fail
          refine hR.mono ?_
          rintro e w2 ⟨rfl, h2, hb2⟩
          have hn2 := (hb2.block N (by omega)).trans (show (wr.drewN m).heap[N]? = _ from HRN.out)
          have cP := percent_any (N + 1) (N + 1) (k + 1) f t acc cvs w2 h2 ht (by omega) (by omega) (by omega) (by omega)
          have HB2 := hid (And.intro hn2 ((below_drewN HW.out m).trans (hb2.mono (by omega))))
          clear h2 hb2 hn2 hR
          go_wp2_with fail
          refine cP.mono ?_
          rintro e w3 ⟨rfl, h3, hb3⟩
          have HQ := hid (h3.eq hd hlt hak' hck' HE.out)
          have HB3 := hid (And.intro ((hb3.block N (by omega)).trans HB2.out.1) (HB2.out.2.trans (hb3.mono (by omega))))
          clear h3 hb3 cP HB2
          go_wp2_with fail
          obtain ⟨k', acc', cvs', fl', q1, q2, q3, q4, q5, q6, q7, q8⟩ := HQ.out
          go_roundg (if fl' then 0 else f.length + 1 - k')
          case rel => exact ⟨k', acc', cvs', fl', q1, fun e => by rw [e]; simp; omega, q3, q4, q5, q6, q7, hid q8, HB3.out.1, hid HB3.out.2⟩
          case measure =>
            cases fl' with
            | true => simp; omega
            | false => have := q2 rfl; simp; omega
        · have hr : runL [37] 1 (c :: t) = [] := by
            rcases run_one [37] (c :: t) with ⟨h1, -⟩ | ⟨c', r', h1, h2, -⟩
            · exact h1
            · have : c' = 37 := by
                have := Ans.all_u8 (p := fun c => inB [37] c = true → c = 37) (by decide +kernel) c'
                exact this h2
              exact absurd ((List.cons.inj h1).1.trans this) h37
          rw [hr] at hR
          have hak' := hak rfl
          have hck' := hck rfl
          have hkn' := hkn rfl
          have HQ := hid (HE.out.lit hd h37)
          have hll := litT_len c t
          obtain ⟨⟨u, j⟩, hu⟩ : ∃ u, litT c t = u := ⟨_, rfl⟩
          rw [hu] at HQ hll
          simp only at HQ hll
          have HU := hid hu
          clear hr hend hc hak hck hkn HE hu
          go_wp2_with fail
          refine cM.mono ?_
          rintro e w1 ⟨rfl, m, rfl⟩
          have x6 := x6 m
          have hR := hR m
          go_wp2_with fail
          refine hR.mono ?_
          rintro e w2 ⟨rfl, h2, hb2⟩
          have hn2 := (hb2.block N (by omega)).trans (show (wr.drewN m).heap[N]? = _ from HRN.out)
          have h2' : PlAt (N + 1) (N + 1) f k acc cvs false w2 := h2
          have cL := h2'.lit hd (by omega)
          rw [HU.out] at cL
          have HB2 := hid (And.intro hn2 ((below_drewN HW.out m).trans (hb2.mono (by omega))))
          clear h2 h2' hb2 hn2 hR
          go_wp2_with fail
          refine cL.mono ?_
          rintro e w3 ⟨rfl, h3, hb3⟩
          have cW := h3.str u (by omega)
          have HB3 := hid (And.intro ((hb3.block N (by omega)).trans HB2.out.1) (HB2.out.2.trans (hb3.mono (by omega))))
          clear h3 hb3 cL HB2
          go_wp2_with fail
          refine cW.mono ?_
          rintro e w4 ⟨rfl, h4, hb4⟩
          have H4 := hid h4
          have HB4 := hid (And.intro ((hb4.block N (by omega)).trans HB3.out.1) (HB3.out.2.trans (hb4.mono (by omega))))
          clear h4 hb4 cW HB3
          go_wp2_with fail
          go_roundg (f.length + 1 - (k + j))
          case rel => exact ⟨k + j, acc ++ u, cvs, false, by omega, by omega, by rw [List.length_append]; omega, fun _ => by rw [List.length_append]; omega, hcl, fun _ => by omega, H4.out, HQ, HB4.out.1, hid HB4.out.2⟩
          case measure => omega
      | true =>
        go_wp2_with fail
        refine cM.mono ?_
        rintro e w1 ⟨rfl, m, rfl⟩
        have x6 := x6 m
        obtain ⟨p, v, A, cc, cS⟩ := hend (wr.drewN m) (below_drewN HW.out m) HRN.out (HPL.out.drewN m) (by simp)
        go_wp2_with fail
        refine cS.mono ?_
        rintro e w3 ⟨rfl, ⟨a4, a5, a6⟩, ⟨b5, d0, d1, d2⟩, ⟨e0, e1, e2⟩, HF⟩
        have HZ := hid (plan_end (acc := acc) HF.out.1 HF.out.2.1 HF.out.2.2.1 HF.out.2.2.2)
        have HQ := hid (plan_post HE.out (by simp) HZ.out.2.1)
        clear cS
        go_wp2_with fail
        refine ret_plan rfl rfl HZ.out.1 rfl ?_
        exact ⟨_, rfl, by rw [HN.out]; exact HQ.out, by rw [HN.out]; exact HZ.out.2.2⟩
    · rw [decide_eq_false hlt] at cM
      have hke : fl = false → k = f.length := fun _ => by omega
      go_wp2_with fail
      refine cM.mono ?_
      rintro e w1 ⟨rfl, m, rfl⟩
      obtain ⟨p, v, A, cc, cS⟩ := hend (wr.drewN m) (below_drewN HW.out m) HRN.out (HPL.out.drewN m) hke
      go_wp2_with fail
      refine cS.mono ?_
      rintro e w3 ⟨rfl, ⟨a4, a5, a6⟩, ⟨b5, d0, d1, d2⟩, ⟨e0, e1, e2⟩, HF⟩
      have HZ := hid (plan_end (acc := acc) HF.out.1 HF.out.2.1 HF.out.2.2.1 HF.out.2.2.2)
      have HQ := hid (plan_post HE.out (by exact hke) HZ.out.2.1)
      clear cS
      go_wp2_with fail
      refine ret_plan rfl rfl HZ.out.1 rfl ?_
      exact ⟨_, rfl, by rw [HN.out]; exact HQ.out, by rw [HN.out]; exact HZ.out.2.2⟩
end Go.Proofs.YtckmgcdiclkoeaaGreatDoor
