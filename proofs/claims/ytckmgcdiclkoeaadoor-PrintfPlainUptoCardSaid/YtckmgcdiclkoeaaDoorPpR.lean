/- The program's reader over a text: what comes next, as long as it is of some octets. Conditions: sizes. -/
import Derived.Test.YtckmgcdiclkoeaaDoorPpB
import Derived.Test.YtckmgcdiclkoeaaDoorShelf
import Derived.Deep.LoopGhost
import Derived.Lib.Bytealg
namespace Go.Proofs.YtckmgcdiclkoeaaDoor
open Go.RowKit
open Go.Lib (hid)

/-- Nothing that was there turns but block b. -/
abbrev One (b : Nat) (w w' : World) : Prop := w.grownBy w' (some b)
theorem One.refl (b : Nat) (w : World) : One b w w := ⟨rfl, rfl, rfl, Nat.le_refl _, fun _ _ _ => rfl⟩
theorem One.trans {b : Nat} {w w' w'' : World} (h : One b w w') (k : One b w' w'') : One b w w'' :=
  ⟨k.os.trans h.os, k.tape.trans h.tape, k.output.trans h.output, Nat.le_trans h.size k.size, fun g h1 h2 => (k.block g (Nat.lt_of_lt_of_le h1 h.size) h2).trans (h.block g h1 h2)⟩
theorem One.drewN {b : Nat} {w w' : World} (h : One b w w') (n : Nat) : One b w (w'.drewN n) := ⟨h.os, h.tape, h.output, h.size, h.block⟩
theorem One.setCell {b : Nat} {w w' : World} (h : One b w w') (o : Nat) (v : Value) : One b w (w'.setCell ⟨b, o, none⟩ v) :=
  h.trans ⟨rfl, rfl, rfl, by simp, fun g _ hb => Below.heap_setCell _ _ _ _ (fun e => hb (by rw [e]))⟩
theorem One.of_below {b : Nat} {w w' : World} (h : Below w.heap.size w w') : One b w w' := ⟨h.os, h.tape, h.output, h.size, fun g hg _ => h.block g hg⟩
theorem One.bears {b : Nat} {w w' : World} (h : One b w w') (B : Nat) : Bears B b w w' := ⟨h.os, h.tape, h.output, h.size, fun g hg hb _ => h.block g hg (fun e => hb (Option.some.inj e))⟩

def inB (of : List UInt8) (c : UInt8) : Bool := decide (0 ≤ Lib.indexByte of c)
/-- What comes next of those octets, at most so many. -/
def runL (of : List UInt8) (most : Nat) (t : List UInt8) : List UInt8 := (t.take most).takeWhile (inB of)
theorem run_len (of : List UInt8) (most : Nat) (t : List UInt8) : (runL of most t).length ≤ most ∧ (runL of most t).length ≤ t.length := by
  have h1 := (List.takeWhile_sublist (inB of) (l := t.take most)).length_le
  rw [List.length_take] at h1
  unfold runL
  omega
theorem setIf_twice (cs : Array Value) (o : Nat) (u v : Value) : (cs.setIfInBounds o u).setIfInBounds o v = cs.setIfInBounds o v := by simp
theorem takeWhile_take {α : Type} (p : α → Bool) : ∀ l : List α, l.take (l.takeWhile p).length = l.takeWhile p
  | [] => rfl
  | x :: r => by
    rw [List.takeWhile_cons]
    split
    · simp [takeWhile_take p r]
    · rfl
theorem run_take (of : List UInt8) (most : Nat) (t : List UInt8) : t.take (runL of most t).length = runL of most t := by
  have h1 := takeWhile_take (inB of) (t.take most)
  rw [List.take_take] at h1
  have h2 := run_len of most t
  unfold runL at h2 ⊢
  rwa [Nat.min_eq_left h2.1] at h1
theorem mem_takeWhile {α : Type} (p : α → Bool) : ∀ (l : List α), ∀ x ∈ l.takeWhile p, p x = true
  | [], x, h => by simp at h
  | y :: r, x, h => by
    rw [List.takeWhile_cons] at h
    split at h
    · rename_i hy
      rcases List.mem_cons.1 h with rfl | h
      · exact hy
      · exact mem_takeWhile p r x h
    · simp at h
theorem runq_in (of : List UInt8) (most : Nat) : ∀ (t : List UInt8) (j : Nat) (h : j < t.length), j < (runL of most t).length → inB of t[j] = true := by
  intro t j h hj
  have h1 : t[j] = (runL of most t)[j] := by
    have e : (runL of most t)[j] = (t.take (runL of most t).length)[j]'(by rw [List.length_take]; omega) := by simp only [run_take]
    rw [e, List.getElem_take]
  rw [h1]
  exact mem_takeWhile (inB of) (t.take most) _ (List.getElem_mem hj)
theorem takeWhile_stop {α : Type} (p : α → Bool) : ∀ (l : List α) (h : (l.takeWhile p).length < l.length), p l[(l.takeWhile p).length] = false
  | [], h => by simp at h
  | x :: r, h => by
    cases hx : p x with
    | true =>
      have e : ((x :: r).takeWhile p) = x :: r.takeWhile p := by rw [List.takeWhile_cons, if_pos hx]
      simp only [e, List.length_cons, List.getElem_cons_succ]
      exact takeWhile_stop p r (by rw [e] at h; simpa using h)
    | false =>
      have e : ((x :: r).takeWhile p) = [] := by rw [List.takeWhile_cons, if_neg (by rw [hx]; simp)]
      simp only [e, List.length_nil, List.getElem_cons_zero]
      exact hx
theorem run_stop (of : List UInt8) (most : Nat) (t : List UInt8) (h : (runL of most t).length < t.length) (hm : (runL of most t).length < most) : inB of t[(runL of most t).length] = false := by
  have h1 := takeWhile_stop (inB of) (t.take most) (by unfold runL at h hm; rw [List.length_take]; omega)
  rw [List.getElem_take] at h1
  exact h1

set_option maxHeartbeats 400000 in
theorem more_any (b : Nat) (S : ByteArray) (q : Nat) (w : World) (c0 : w.cell? ⟨b, 0, none⟩ = some (.string S)) (c1 : w.cell? ⟨b, 1, none⟩ = some (.int .i64 q)) :
    Calls Tryd.prog 17 #[.pointer (some ⟨b, 0, none⟩)] w fun e w' => e = .returned (.bool (decide (q < S.size))) ∧ ∃ m, w' = w.drewN m := by
  go_enter Tryd.func17, Tryd.ntmps17
  go_wp2
  go_quiet (fail)
  go_wp2
  go_ret
  exact ⟨by simp, _, rfl⟩

set_option maxRecDepth 100000 in
set_option maxHeartbeats 4000000 in
/-- run takes the octets that come next. -/
theorem run_any (T : TypeId) (b : Nat) (cs : Array Value) (s of : List UInt8) (k most : Nat) (w : World) (hb : w.heap[b]? = some (.cells cs T (0, 0))) (h0 : cs[0]? = some (encS s)) (h1 : cs[1]? = some (.int .i64 k)) (hk : k ≤ s.length) (hs : s.length ≤ 1099511627776) :
    Calls Tryd.prog 21 #[.pointer (some ⟨b, 0, none⟩), encS of, .int .i64 most] w fun e w' => e = .returned (encS (runL of most (s.drop k))) ∧ w'.heap[b]? = some (.cells (cs.setIfInBounds 1 (.int .i64 ((k + (runL of most (s.drop k)).length : Nat) : Int))) T (0, 0)) ∧ One b w w' := by
  obtain ⟨S, hS⟩ : ∃ S : ByteArray, (⟨s.toArray⟩ : ByteArray) = S := ⟨_, rfl⟩
  obtain ⟨O, hO⟩ : ∃ O : ByteArray, (⟨of.toArray⟩ : ByteArray) = O := ⟨_, rfl⟩
  have hsz : S.size = s.length := by rw [← hS]; simp [ByteArray.size]
  have HG : Hid (∀ (k : Nat) (h : k < s.length) (h' : k < S.size), S[k]'h' = s[k]) := hid fun k h h' => by
    subst hS
    simp [ByteArray.getElem_eq_getElem_data]
  have HX : Hid (∀ i j, S.extract i j = ⟨((s.take j).drop i).toArray⟩) := hid fun i j => by
    rw [← hS]
    apply ByteArray.ext
    apply Array.toList_inj.1
    rw [ByteArray.data_extract, Array.toList_extract, List.extract_eq_take_drop, List.drop_take]
  obtain ⟨L, hL⟩ : ∃ L, (runL of most (s.drop k)).length = L := ⟨_, rfl⟩
  have hrl := run_len of most (s.drop k)
  rw [hL, List.length_drop] at hrl
  have HT := hid (run_take of most (s.drop k))
  rw [hL] at HT
  have HI : Hid (∀ q (h : q < s.length), k ≤ q → q < k + L → inB of s[q] = true) := hid fun q h hq hqL => by
    have := runq_in of most (s.drop k) (q - k) (by rw [List.length_drop]; omega) (by omega)
    rw [List.getElem_drop] at this
    simpa [show k + (q - k) = q by omega] using this
  have HS : Hid (∀ h : k + L < s.length, L < most → inB of s[k + L] = false) := hid fun h hm => by
    have := run_stop of most (s.drop k) (by rw [hL, List.length_drop]; omega) (by omega)
    rw [List.getElem_drop] at this
    simpa [hL] using this
  have cI := fun (c : UInt8) W => (Tryd.strings_IndexByte O (c.toNat : Int) W)
  have hOl : O.data.toList = of := by rw [← hO]
  simp only [u8_toNat_cast, hOl] at cI
  have HB : Hid (∀ c, inB of c = decide (0 ≤ Lib.indexByte of c)) := hid fun _ => rfl
  rw [show encS of = .string O by rw [← hO]]
  rw [show encS s = .string S by rw [← hS]] at h0
  rw [hL]
  have c0 : w.cell? ⟨b, 0, none⟩ = some (.string S) := (Lib.cell_of_heap hb 0).trans h0
  have c1 : w.cell? ⟨b, 1, none⟩ = some (.int .i64 k) := (Lib.cell_of_heap hb 1).trans h1
  have HC : Hid (cs.setIfInBounds 1 (.int .i64 k) = cs) := hid (by
    apply Array.ext
    · simp
    · intro i i1 i2
      rw [Array.getElem_setIfInBounds i2]
      split
      · rename_i e
        subst e
        rw [Array.getElem?_eq_getElem i2] at h1
        exact (Option.some.inj h1).symm
      · rfl)
  have HB0 := hid hb
  have H0 := hid h0
  have H1 := hid h1
  have hRet : Hid ((⟨(runL of most (s.drop k)).toArray⟩ : ByteArray) = ⟨((s.take (k + L)).drop k).toArray⟩) := hid (by rw [List.drop_take, show k + L - k = L by omega, HT.out])
  rw [show encS (runL of most (s.drop k)) = .string ⟨((s.take (k + L)).drop k).toArray⟩ by rw [← hRet.out]]
  clear hb h0 h1 hL hS hO hOl hRet HT
  go_enter Tryd.func21, Tryd.ntmps21
  go_wp2
  go_loopg [] L (fun n wr => ∃ q : Nat, q + n = k + L ∧ k ≤ q ∧ wr.heap[b]? = some (.cells (cs.setIfInBounds 1 (.int .i64 q)) T (0, 0)) ∧ One b w wr)
  case atStart => exact ⟨k, rfl, Nat.le_refl _, by rw [HC.out]; exact HB0.out, One.refl _ _⟩
  case round =>
    obtain ⟨q, hqn, hkq, hb, hW⟩ := hrel
    have c0 : wr.cell? ⟨b, 0, none⟩ = some (.string S) := (Lib.cell_of_heap hb 0).trans (by rw [Array.getElem?_setIfInBounds_ne (by omega)]; exact H0.out)
    have c1 : wr.cell? ⟨b, 1, none⟩ = some (.int .i64 q) := (Lib.cell_of_heap hb 1).trans (setIf_self H1.out)
    have f1 : wr.frozen? ⟨b, 1, none⟩ = false := Lib.frozen_of_heap hb 1
    have hsz1 : (S.size : Int) = (s.length : Int) := by omega
    by_cases hlt : q < k + L
    · have hql : q < s.length := by omega
      obtain ⟨c, hc⟩ : ∃ c, s[q] = c := ⟨_, rfl⟩
      have hin := HI.out q hql hkq hlt
      rw [hc, HB.out] at hin
      have hg : ∀ h, S[q]'h = c := fun h => by rw [HG.out q hql h, hc]
      have cM : ∀ n, Calls Tryd.prog 17 #[.pointer (some ⟨b, 0, none⟩)] (wr.drewN n) fun e w' => e = .returned (.bool true) ∧ ∃ m, w' = (wr.drewN n).drewN m := fun n => (more_any b S q (wr.drewN n) c0 c1).mono fun e w' h => ⟨by rw [h.1, decide_eq_true (by omega)], h.2⟩
      have hdm : decide ((q : Int) - (k : Int) < (most : Int)) = true := by simp; omega
      have hS0 : (q : Int) < (S.size : Int) := by omega
      go_wp2_with fail
      go_quiet (first | (go_at_call 17; exact Calls.quiet_of (cM _)) | (go_at_call 28; exact Calls.quiet_of_same (cI _ _)))
      have hb2 := heap_setCell_same (wr.drewN nq) b 1 _ T (.int .i64 ((q : Int) + 1)) hb
      have hset : (cs.setIfInBounds 1 (.int .i64 (q : Int))).setIfInBounds 1 (.int .i64 ((q : Int) + 1)) = cs.setIfInBounds 1 (.int .i64 ((q : Int) + 1)) := setIf_twice _ _ _ _
      rw [hset] at hb2
      have HB2 := hid (And.intro hb2 ((hW.drewN nq).setCell 1 (.int .i64 ((q : Int) + 1))))
      clear hb2 hset hb hW hin hg cM HI HS HG
      go_wp2_with fail
      go_roundg (gk - 1)
      case rel => exact ⟨q + 1, by omega, by omega, by rw [show ((q + 1 : Nat) : Int) = (q : Int) + 1 from by omega]; exact HB2.out.1, HB2.out.2⟩
      case measure => omega
    · have hq : q = k + L := by omega
      rw [← hq] at HS
      have HQ := hid hq
      have hx : S.extract k q = ⟨((s.take (k + L)).drop k).toArray⟩ := by rw [HX.out, hq]
      obtain ⟨R, hR⟩ : ∃ R, S.extract k q = R := ⟨_, rfl⟩
      have HR := hid (hR.symm.trans hx)
      clear hx
      have hle : (q : Int) ≤ (S.size : Int) := by omega
      have hkq2 : (k : Int) ≤ (q : Int) := by omega
      have HB2 := hid (And.intro hb hW)
      clear hb hW HI hq
      by_cases hend : q < s.length
      · have cM : ∀ n, Calls Tryd.prog 17 #[.pointer (some ⟨b, 0, none⟩)] (wr.drewN n) fun e w' => e = .returned (.bool true) ∧ ∃ m, w' = (wr.drewN n).drewN m := fun n => (more_any b S q (wr.drewN n) c0 c1).mono fun e w' h => ⟨by rw [h.1, decide_eq_true (by omega)], h.2⟩
        by_cases hmm : L < most
        · have hin := HS.out hend hmm
          obtain ⟨c, hc⟩ : ∃ c, s[q] = c := ⟨_, rfl⟩
          rw [hc, HB.out] at hin
          have hg : ∀ h, S[q]'h = c := fun h => by rw [HG.out _ hend h, hc]
          have hdm : decide ((q : Int) - (k : Int) < (most : Int)) = true := by have := HQ.out; simp; omega
          have hS0 : (q : Int) < (S.size : Int) := by omega
          clear HS HG hc HX
          go_wp2_with fail
          go_quiet (first | (go_at_call 17; exact Calls.quiet_of (cM _)) | (go_at_call 28; exact Calls.quiet_of_same (cI _ _)))
          go_wp2_with fail
          go_quiet (fail)
          go_wp2_with fail
          go_ret
          exact ⟨by rw [← HR.out]; rfl, by rw [← HQ.out]; exact HB2.out.1, (HB2.out.2.drewN _).drewN _⟩
        · have hdm : decide ((q : Int) - (k : Int) < (most : Int)) = false := by have := HQ.out; simp; omega
          clear HS HG HX
          go_wp2_with fail
          go_quiet (first | (go_at_call 17; exact Calls.quiet_of (cM _)))
          go_wp2_with fail
          go_quiet (fail)
          go_wp2_with fail
          go_ret
          exact ⟨by rw [← HR.out]; rfl, by rw [← HQ.out]; exact HB2.out.1, (HB2.out.2.drewN _).drewN _⟩
      · have cM : ∀ n, Calls Tryd.prog 17 #[.pointer (some ⟨b, 0, none⟩)] (wr.drewN n) fun e w' => e = .returned (.bool false) ∧ ∃ m, w' = (wr.drewN n).drewN m := fun n => (more_any b S q (wr.drewN n) c0 c1).mono fun e w' h => ⟨by rw [h.1, decide_eq_false (by omega)], h.2⟩
        clear HS HG HX
        go_wp2_with fail
        go_quiet (first | (go_at_call 17; exact Calls.quiet_of (cM _)))
        go_wp2_with fail
        go_quiet (fail)
        go_wp2_with fail
        go_ret
        exact ⟨by rw [← HR.out]; rfl, by rw [← HQ.out]; exact HB2.out.1, (HB2.out.2.drewN _).drewN _⟩
end Go.Proofs.YtckmgcdiclkoeaaDoor
