/- texts.Delete, texts.Translate: the program's calls. Conditions: sizes. -/
import Derived.Test.YtfeedppodffheaaTwC
import Derived.Test.YtfeedppodffheaaTwD
import Derived.Test.YtfeedppodffheaaSetM
import Derived.Laws.Tables
namespace Go.Proofs.Ytfeedppodffheaa
open Go.RowKit
open Go.Lib (hid)

def zerosB : Array Value := (List.replicate 256 (.bool false)).toArray
def zerosN : Array Value := (List.replicate 256 (.int .u8 0)).toArray
theorem zero_b (W : World) : (zeroValue 47).run Try.prog W = .ok (.agg zerosB) W := by
  have h : (Try.prog.info? 47).map (·.zero) = some (some (.agg zerosB)) := by kernel_rfl
  obtain ⟨i, hi, hz⟩ := Option.map_eq_some_iff.1 h
  simp [zeroValue, typeInfo, hi, hz, go_sem]
theorem zero_n (W : World) : (zeroValue 44).run Try.prog W = .ok (.agg zerosN) W := by
  have h : (Try.prog.info? 44).map (·.zero) = some (some (.agg zerosN)) := by kernel_rfl
  obtain ⟨i, hi, hz⟩ := Option.map_eq_some_iff.1 h
  simp [zeroValue, typeInfo, hi, hz, go_sem]
theorem rew_del (o s : List UInt8) : rewL (fun c => (c, !decide (c ∈ o))) s = s.filter fun c => !o.contains c := by
  unfold rewL
  induction s with
  | nil => rfl
  | cons c r ih =>
    rw [List.flatMap_cons, ih, List.filter_cons]
    by_cases h : c ∈ o <;> simp [h]
theorem rew_swap (o b s : List UInt8) : rewL (fun c => (if c ∈ o then b.getD (min (o.idxOf c) (b.length - 1)) 0 else c, true)) s = swapT s o b := by
  unfold rewL swapT
  induction s with
  | nil => rfl
  | cons c r ih =>
    rw [List.flatMap_cons, ih, List.map_cons]
    rfl

set_option linter.unusedSimpArgs false in
set_option maxRecDepth 100000 in
set_option maxHeartbeats 4000000 in
theorem delete_any (s x : List UInt8) (w : World) (hs : s.length ≤ 140737488355328) (hx : x.length ≤ 68719476736) :
    Calls Try.prog 13 #[encS s, encS x] w fun e w' => e = .returned (.tuple #[encS (delT s x).1, .bool (delT s x).2]) ∧ Below w.heap.size w w' := by
  have cX := fun W => set_any x W hx
  have hlo := setT_len x
  have HT := hid (show delT s x = if (setT x).2 = false then ([], false) else (s.filter fun c => !(setT x).1.contains c, true) from rfl)
  generalize delT s x = q at *
  generalize setT x = qo at *
  obtain ⟨o, ok⟩ := qo
  simp only at cX HT hlo
  have hol : o.length ≤ 17592186044416 := by omega
  clear hlo
  cases ok with
  | false =>
    have HQ : Hid (q = ([], false)) := hid (by rw [HT.out]; simp)
    clear HT
    go_enter Try.func13, Try.ntmps13
    go_wp2_with fail
    refine (cX _).mono ?_
    rintro e w1 ⟨rfl, hb1⟩
    have HB1 := hid hb1
    clear cX hb1
    go_wp2_with fail
    go_ret2
    exact ⟨by rw [HQ.out]; rfl, HB1.out⟩
  | true =>
    have HQ : Hid (q = (rewL (fun c => (c, !decide (c ∈ o))) s, true)) := hid (by rw [HT.out, rew_del]; simp)
    have hz := zero_b
    have hszo : (⟨o.toArray⟩ : ByteArray).size = o.length := by simp [ByteArray.size]
    clear HT
    go_enter Try.func13, Try.ntmps13
    go_wp2_with fail
    refine (cX _).mono ?_
    rintro e w1 ⟨rfl, hb1⟩
    have HB1 := hid hb1
    have hs1 := hb1.size
    clear cX hb1
    obtain ⟨N, hN⟩ : ∃ N, w1.heap.size = N := ⟨_, rfl⟩
    go_wp2_with fail
    go_loopw [19] (fun vi wr => ∃ k : Nat, k ≤ o.length ∧ vi = .int .i64 k ∧ Hid (TabT 47 N (fun c => .bool (decide (c ∈ o.take k))) wr) ∧ Hid (Below w.heap.size w wr) ∧ N < wr.heap.size) (fun vi _ => o.length - (intOf vi).toNat)
    case atStart =>
      refine ⟨0, Nat.zero_le _, rfl, hid ?_, hid (HB1.out.alloc hs1 _), by simp; omega⟩
      unfold TabT
      rw [← hN]
      have e : (fun c : UInt8 => Value.bool (decide (c ∈ o.take 0))) = fun _ => .bool false := by funext c; simp
      rw [e, tabV_const]
      exact heap_alloc_new w1 _
    case round =>
      obtain ⟨k, hk, rfl, HA, HB, hNr⟩ := hrel
      by_cases hlt : k < o.length
      · obtain ⟨z, hze⟩ : ∃ z, o[k] = z := ⟨_, rfl⟩
        have hg : ∀ h, (⟨o.toArray⟩ : ByteArray)[k]'h = z := fun h => by rw [← hze]; simp [ByteArray.getElem_eq_getElem_data]
        have hzl := z.toNat_lt
        have y1 : wr.frozen? ⟨N, z.toNat, none⟩ = false := HA.out.frozen _
        have y0 := HA.out.cell z
        have HA2 : Hid (TabT 47 N (fun c => .bool (decide (c ∈ o.take (k + 1)))) (wr.setCell ⟨N, z.toNat, none⟩ (.bool true))) := hid (by
          have h := HA.out.set z (.bool true)
          have e : (fun c : UInt8 => Value.bool (decide (c ∈ o.take (k + 1)))) = fun x => if x = z then .bool true else .bool (decide (x ∈ o.take k)) := by
            funext c
            rw [List.take_succ_eq_append_getElem hlt, hze]
            by_cases hc : c = z <;> simp [hc]
          rw [e]
          exact h)
        have HB2 := hid (HB.out.setCell (p := ⟨N, z.toNat, none⟩) (by show w.heap.size ≤ N; omega) (.bool true))
        clear hze HA HB
        go_wp2_with fail
        go_roundw
        case rel => exact ⟨k + 1, by omega, by go_num, HA2, HB2, by simp; exact hNr⟩
        case measure => simp [intOf]; omega
      · obtain rfl : k = o.length := by omega
        have hA := HA.out
        rw [List.take_length] at hA
        have cR := rewritten_any 27 #[.pointer (some ⟨N, 0, none⟩)] (enters_of Try.func27 (by kernel_rfl) rfl) (fun c => (c, !decide (c ∈ o))) N s wr hs hNr
          (fun c W hW => del_fn N (fun c => decide (c ∈ o)) c W (by unfold TabT at hA ⊢; rw [hW]; exact hA))
        have hNs := HB.out.size
        clear HA hA
        go_wp2_with fail
        refine cR.mono ?_
        rintro e w3 ⟨rfl, hb3⟩
        have HB3 := hid (HB.out.trans (hb3.mono hNs))
        clear cR hb3
        go_wp2_with fail
        go_ret2
        exact ⟨by rw [HQ.out]; rfl, HB3.out⟩
end Go.Proofs.Ytfeedppodffheaa
