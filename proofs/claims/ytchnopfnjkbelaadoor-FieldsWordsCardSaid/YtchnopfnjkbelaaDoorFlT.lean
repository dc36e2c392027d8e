/- The program's Fields, whole. Conditions: sizes. -/
import Derived.Test.YtchnopfnjkbelaaDoorFlF
import Derived.Deep.WholeRow
namespace Go.Proofs.YtchnopfnjkbelaaDoor
open Go.RowKit
open Go.Lib (hid)

theorem zero_ct (W : World) : (zeroValue 42).run Tryd.prog W = .ok (.agg zeroC) W := by
  obtain ⟨i, hi, e⟩ := Option.map_eq_some_iff.1 info_ct
  have hz : i.zero = some (.agg zeroC) := by simpa using congrArg Prod.fst e
  simp [zeroValue, typeInfo, hi, hz, go_sem]
theorem info_cs : (Tryd.prog.info? 42).map (·.size) = some 260 := by kernel_rfl
theorem zero_size : zeroC.size = 260 := by kernel_rfl
theorem start_size (kv : List Value) (h : kv.length = 256) : (startC kv).size = 260 := by simp [startC, h]
theorem start_one (ifs : List UInt8) : (startC (kindsV ifs)).all (·.oneCell') = true := by
  have h := kinds_one ifs
  simp only [startC, List.all_toArray, List.all_append] at h ⊢
  simpa [Value.oneCell'] using h
theorem wpList_buildC {ops : Array Oper} {rest : List Oper} {o : Oper} {a : Act} {w : World} {Q : Exit → Act → World → Prop} (hg : o.guard = none) (x : Operand) (ho : o.op = .build 42 #[(0, x)]) (kv : List Value) (hk : kv.length = 256) (hx : a.eval x = .agg kv.toArray)
    (h : wpList Tryd.prog ops Q rest (a.put o.dst (.agg (startC kv))) w) : wpList Tryd.prog ops Q (o :: rest) a w := by
  have e : ((#[(0, x)] : Array (Nat × Operand)).map fun (i, x) => (i, a.eval x)).toList = [(0, .agg kv.toArray)] := by simp [hx]
  refine wpList_build hg 42 #[(0, x)] ho ?_ ?_
  · rw [e, built_c kv hk]; rfl
  · rw [e, built_c kv hk]; exact h
theorem cu_start {w w1 : World} {ifs : List UInt8} (hb : Below w.heap.size w w1) : CU w.heap.size w w1.heap.size (kindsV ifs) ⟨[], [], false, false⟩ (w1.alloc (.cells (startC (kindsV ifs)) 42)) := by
  have hs := hb.size
  exact ⟨hs, (fun _ => rfl), .slice none 0 0, .slice none 0 0, false, ⟨kindsV_len ifs, heap_alloc_new _ _⟩, rfl, w.heap.size, none, 0, none, 0, rfl, rfl, ownF_nil _ _ _, ownO_nil _ _, Nat.le_refl _, by simp; omega, hb.alloc hs _⟩
theorem cu_end {w w' : World} {G : Nat} {kv : List Value} {s : Fs} (h : CU w.heap.size w G kv s w') : ∃ a c M, w'.cell? ⟨G, 256, none⟩ = some (.slice a s.out.length c) ∧ OwnF w' w.heap.size M a c s.out ∧ Below w.heap.size w w' := by
  obtain ⟨-, -, vo, vn, sp, hC, -, M, a, c, a2, c2, rfl, rfl, h3, -, -, -, h7⟩ := h
  exact ⟨a, c, M, hC.c0, h3, h7⟩

set_option maxRecDepth 100000 in
set_option maxHeartbeats 4000000 in
theorem fields_any (A : Option Addr) (c : Nat) (l : List Pc) (ifs : List UInt8) (w : World) (hP : PcsP w (fun _ => True) (fun _ => True) A l) (hl : sizePs l ≤ 1099511627775) (hi : ifs.length ≤ 1099511627776) :
    Calls Tryd.prog 5 #[.slice A l.length c, .string ⟨ifs.toArray⟩] w fun e w' => ∃ a c' M, e = .returned (.slice a (fieldsL l ifs).length c') ∧ OwnF w' w.heap.size M a c' (fieldsL l ifs) ∧ Below w.heap.size w w' := by
  have cK := fun W => kinds_any ifs W hi
  have hz := zero_ct
  have hsz : sizeF (runF ifs l) ≤ 1099511627775 := by
    have h1 := run_size ifs l ⟨[], [], false, false⟩
    have e : sizeF ⟨[], [], false, false⟩ = 0 := rfl
    unfold runF
    omega
  have cE := fun G W (hW : CU w.heap.size w G (kindsV ifs) (runF ifs l) W) => end_any W hW (by unfold sizeF at hsz; omega)
  go_enter Tryd.func5, Tryd.ntmps5
  go_wp2_with (first
    | (go_at_call 17; (with_reducible refine (cK _).mono ?_); rintro e w1 ⟨rfl, hb1⟩)
    | (refine wpList_buildC rfl (.tmp 7) rfl (kindsV ifs) (kindsV_len ifs) rfl ?_)
    | (refine wpList_store_row rfl 42 (.tmp 5) (.tmp 8) rfl w1.heap.size (startC (kindsV ifs)) rfl rfl _ _ (heap_alloc_new w1 _) (by rw [info_cs, start_size _ (kindsV_len ifs)]) (by rw [start_size _ (kindsV_len ifs), zero_size]) (start_one ifs) ?_; rw [World.setRow_alloc_new]))
  have cP := eachP_any A c l _ hP (by omega) (cu_start (ifs := ifs) hb1)
  refine cP.mono ?_
  rintro e w3 ⟨rfl, h3⟩
  have p2 : w3.cell? ⟨w1.heap.size, 258, none⟩ = some (.bool (runF ifs l).opn) := by
    obtain ⟨-, -, vo, vn, sp, hC, -⟩ := h3
    exact hC.c2
  have HE : Hid (fieldsL l ifs = endF (runF ifs l)) := hid rfl
  have cE1 := cE w1.heap.size w3 h3
  clear cP hP hsz cE
  generalize runF ifs l = s at *
  obtain ⟨so, sn, sop, sw⟩ := s
  simp only at p2 cE1
  cases sop
  · obtain ⟨a, c', M, hc, hO, hB⟩ := cu_end h3
    clear h3
    go_wp2_with fail
    go_ret
    rw [HE.out]
    exact ⟨a, c', M, rfl, hO, hB⟩
  · go_wp2_with (go_at_call 20; (with_reducible refine cE1.mono ?_); rintro e w4 ⟨rfl, h4, -⟩; obtain ⟨a, c', M, hc, hO, hB⟩ := cu_end h4; have HR := hid (And.intro hO hB); clear hO hB h4)
    go_ret
    rw [HE.out]
    exact ⟨a, c', M, by simp [endF], HR.out.1, HR.out.2⟩
end Go.Proofs.YtchnopfnjkbelaaDoor
