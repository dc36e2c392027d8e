
/- texts.Delete, texts.Translate: the program's calls. Conditions: sizes. -/
import Derived.Test.YtfeedppodffheaaDoorTwC
import Derived.Test.YtfeedppodffheaaDoorTwD
import Derived.Test.YtfeedppodffheaaDoorSetM
import Derived.Laws.Tables
namespace Go.Proofs.YtfeedppodffheaaDoor
open Go.RowKit
open Go.Lib (hid)

def zerosB : Array Value := (List.replicate 256 (.bool false)).toArray
def zerosN : Array Value := (List.replicate 256 (.int .u8 0)).toArray
theorem zero_b (W : World) : (zeroValue 74).run Tryd.prog W = .ok (.agg zerosB) W := by
  have h : (Tryd.prog.info? 74).map (·.zero) = some (some (.agg zerosB)) := by kernel_rfl
  obtain ⟨i, hi, hz⟩ := Option.map_eq_some_iff.1 h
  simp [zeroValue, typeInfo, hi, hz, go_sem]
theorem zero_n (W : World) : (zeroValue 48).run Tryd.prog W = .ok (.agg zerosN) W := by
  have h : (Tryd.prog.info? 48).map (·.zero) = some (some (.agg zerosN)) := by kernel_rfl
  obtain ⟨i, hi, hz⟩ := Option.map_eq_some_iff.1 h
  simp [zeroValue, typeInfo, hi, hz, go_sem]
theorem rew_del (o s : List UInt8) : rewL (fun c => (c, !decide (c ∈ o))) s = s.filter fun c => !o.contains c := by
  unfold rewL
  induction s with
  | nil => rfl
  | cons c r ih =>
    rw [List.flatMap_cons, ih, List.filter_cons]
    by_cases h : c ∈ o <;> simp [h]
theorem rew_swap (o b s : List UInt8) : rewL (fun c => (if c ∈ o then b.getD (min (o.idxOf c) (b.length - 1)) 0 else c, true)) s = swapT s o b := by
  unfold rewL swapT
  induction s with
  | nil => rfl
  | cons c r ih =>
    rw [List.flatMap_cons, ih, List.map_cons]
    rfl

end Go.Proofs.YtfeedppodffheaaDoor
