/- The program's Fields. Conditions: sizes. -/
import Derived.Test.YtchnopfnjkbelaaDoorFlH
import Derived.Test.YtchnopfnjkbelaaDoorFlK
namespace Go.Proofs.YtchnopfnjkbelaaDoor
open Go.RowKit
open Go.Lib (hid)

set_option maxRecDepth 100000 in
set_option maxHeartbeats 4000000 in
/-- each over pieces, with the cutter's piece. -/
theorem eachP_any {w0 : World} {G : Nat} {ifs : List UInt8} (A : Option Addr) (c : Nat) (l : List Pc) (w : World) (hP : PcsP w0 (fun _ => True) (fun _ => True) A l) (hl : sizePs l ≤ 1099511627776) (h0 : CU w0.heap.size w0 G (kindsV ifs) ⟨[], [], false, false⟩ w) :
    Calls Tryd.prog 18 #[.slice A l.length c, .func (.func 19) #[.pointer (some ⟨G, 0, none⟩)] #[]] w fun e w' => e = .returned (.tuple #[]) ∧ CU w0.heap.size w0 G (kindsV ifs) (runF ifs l) w' := by
  have hll := sizePs_len l
  have hln : l.length ≤ 1099511627776 := by omega
  go_enter Tryd.func18, Tryd.ntmps18
  go_wp2
  go_loopw [8] (fun i wr => ∃ k : Nat, k ≤ l.length ∧ i = .int .i64 k ∧ Hid (CU w0.heap.size w0 G (kindsV ifs) (runF ifs (l.take k)) wr)) (fun i _ => l.length - (intOf i).toNat)
  case atStart => exact ⟨0, Nat.zero_le _, rfl, hid h0⟩
  case round =>
    obtain ⟨k, hk, rfl, HI⟩ := hrel
    by_cases hlt : k < l.length
    · obtain ⟨gA, oA, B, cc, rfl, -, a0, a1, a2, a3, hcc, hO⟩ := hP k hlt
      have hbl := HI.out.bel
      have hsz : sizeF (runF ifs (l.take k)) + l[k].ch.length ≤ 1099511627776 := by
        have h1 := run_size ifs (l.take k) ⟨[], [], false, false⟩
        have h2 := sizePs_at l k hlt
        have e : sizeF ⟨[], [], false, false⟩ = 0 := rfl
        unfold runF
        omega
      have HN := hid (run_succ ifs l k hlt)
      have HK := hid (show k + 1 ≤ l.length by omega)
      generalize l[k] = p at *
      obtain ⟨ch, sl, kp, ct⟩ := p
      simp only at *
      have b0 := cell_below hbl a0
      have b1 := cell_below hbl a1
      have b2 := cell_below hbl a2
      have b3 := cell_below hbl a3
      obtain ⟨W2, hW2⟩ : ∃ W2, wr.alloc (.cells #[.slice B ch.length cc, .bool sl, .bool kp, .bool ct] 45) = W2 := ⟨_, rfl⟩
      have hb2 : Below wr.heap.size wr W2 := by rw [← hW2]; exact (Below.refl _ _).alloc (Nat.le_refl _) _
      have hbx : W2.heap[wr.heap.size]? = some (.cells #[.slice B ch.length cc, .bool sl, .bool kp, .bool ct] 45 (0, 0)) := by rw [← hW2]; exact heap_alloc_new _ _
      have x0 : W2.cell? ⟨wr.heap.size, 0, none⟩ = some (.slice B ch.length cc) := by simp [World.cell?, hbx]
      have x1 : W2.cell? ⟨wr.heap.size, 1, none⟩ = some (.bool sl) := by simp [World.cell?, hbx]
      have x2 : W2.cell? ⟨wr.heap.size, 2, none⟩ = some (.bool kp) := by simp [World.cell?, hbx]
      have x3 : W2.cell? ⟨wr.heap.size, 3, none⟩ = some (.bool ct) := by simp [World.cell?, hbx]
      have cS := piece_any (ifs := ifs) B cc ⟨ch, sl, kp, ct⟩ W2 hO (HI.out.below hb2) hsz
      unfold pcV at cS
      simp only at cS
      clear hP h0 HI a0 a1 a2 a3 hO hcc hbl hb2 hbx hsz hll hl
      go_wp2_with (go_at_call 19; (with_reducible refine cS.mono ?_); rintro e W' ⟨rfl, hI'⟩)
      go_roundw
      case rel => exact ⟨k + 1, HK.out, by go_num, hid (by rw [HN.out]; exact hI')⟩
      case measure => simp [intOf]; omega
    · obtain rfl : k = l.length := by omega
      rw [List.take_length] at HI
      clear hP h0
      go_wp2
      go_end0
      exact ⟨rfl, HI.out⟩
theorem fold_set : ∀ (vs : List Value) (n : Nat) (cells : Array Value), n + vs.length ≤ cells.size → (vs.zipIdx n).foldl (fun (cs : Array Value) x => cs.setIfInBounds (0 + x.2) x.1) cells = (cells.toList.take n ++ (vs ++ cells.toList.drop (n + vs.length))).toArray
  | [], n, cells, _ => by
    have e : cells.toList.take n ++ cells.toList.drop n = cells.toList := List.take_append_drop _ _
    simp [e]
  | v :: r, n, cells, h => by
    simp only [List.length_cons] at h
    rw [List.zipIdx_cons, List.foldl_cons]
    rw [fold_set r (n + 1) _ (by rw [Array.size_setIfInBounds]; omega)]
    congr 1
    rw [Array.toList_setIfInBounds, Nat.zero_add, List.take_succ_eq_append_getElem (by simp; omega), List.take_set_of_le (by omega), List.getElem_set_self, List.drop_set_of_lt (by omega)]
    simp only [List.append_assoc, List.cons_append, List.nil_append, List.length_cons]
    congr 4
    omega
/-- A cutter as it is built. -/
def startC (kv : List Value) : Array Value := (kv ++ [Value.slice none 0 0, Value.slice none 0 0, Value.bool false, Value.bool false]).toArray
def zeroC : Array Value := startC (List.replicate 256 (.int .u8 0))
theorem info_ct : (Tryd.prog.info? 42).map (fun i => (i.zero, i.size)) = some (some (.agg zeroC), 260) := by kernel_rfl
theorem built_c (kv : List Value) (h : kv.length = 256) : Tryd.prog.built 42 [(0, .agg kv.toArray)] = some (startC kv) := by
  obtain ⟨i, hi, e⟩ := Option.map_eq_some_iff.1 info_ct
  have hz : i.zero = some (.agg zeroC) := by simpa using congrArg Prod.fst e
  have hz1 : ((Value.agg zeroC).cells) = zeroC := rfl
  have hk1 : ((Value.agg kv.toArray).cells) = kv.toArray := rfl
  have hp : ∀ fs, Tryd.prog.underlying 42 = some (.struct fs) → fs.toList.mapM (fun f => (Tryd.prog.info? f.type).map fun i => (f.offset, i.size)) = some [(0, 256), (256, 1), (257, 1), (258, 1), (259, 1)] := by
    intro fs hfs
    have hq : ((Tryd.prog.underlying 42).bind fun d => match d with | .struct fs => fs.toList.mapM (fun f => (Tryd.prog.info? f.type).map fun i => (f.offset, i.size)) | _ => none) = some [(0, 256), (256, 1), (257, 1), (258, 1), (259, 1)] := by kernel_rfl
    rw [hfs] at hq
    exact hq
  have hu := Tryd.underlying42
  unfold Program.built
  rw [hi, hu]
  simp only [hz]
  rw [hp _ hu]
  have hsz : kv.toArray.size = 256 := by simpa using h
  have hzs : zeroC.size = 260 := by kernel_rfl
  show Instr.fill _ ((Value.agg zeroC).cells) [(0, .agg kv.toArray)] = some (startC kv)
  rw [hz1]
  unfold Instr.fill
  simp only [hk1, hsz, hzs]
  unfold Instr.fill
  have hpl : (#[(0, 256), (256, 1), (257, 1), (258, 1), (259, 1)] : Array (Nat × Nat))[0]? = some (0, 256) := rfl
  have hb : (decide (256 ≠ 256) || decide (0 + 256 > 260)) = false := rfl
  rw [hpl]
  simp only [hb, Bool.false_eq_true, if_false]
  rw [← Array.foldl_toList, Array.toList_zipIdx]
  have hf := fold_set kv 0 zeroC (by rw [hzs, h]; omega)
  rw [hf, h]
  rfl
end Go.Proofs.YtchnopfnjkbelaaDoor
