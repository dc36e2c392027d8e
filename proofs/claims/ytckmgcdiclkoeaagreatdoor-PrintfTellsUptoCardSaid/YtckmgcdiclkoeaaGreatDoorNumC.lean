
/- Contract of number.Print: it returns the number's digits, a sign ahead of them where it is below 0; of what was in memory nothing has turned. No conditions but that an int is one. -/
import Derived.Test.YtckmgcdiclkoeaaGreatDoorNumB
namespace Go.Proofs.YtckmgcdiclkoeaaGreatDoor
open Go.RowKit
open Go.Lib (hid)

/-- A number's decimal digits. -/
def decD (u : Nat) : List UInt8 := if 10 ≤ u then decD (u / 10) ++ [(u % 10 + 48).toUInt8] else [(u + 48).toUInt8]
termination_by u
decreasing_by omega
theorem decD_one {u : Nat} (h : u < 10) : decD u = [(u + 48).toUInt8] := by rw [decD, if_neg (by omega)]
theorem decD_more {u : Nat} (h : 10 ≤ u) : decD u = decD (u / 10) ++ [(u % 10 + 48).toUInt8] := by rw [decD, if_pos h]
/-- What Print tells. -/
def printL (n : Int) : List UInt8 := if n < 0 then 45 :: decD n.natAbs else decD n.natAbs
theorem drop_set {cur : Array Value} {a : Nat} {v : Value} (h : a < cur.size) : (cur.setIfInBounds a v).toList.drop a = v :: cur.toList.drop (a + 1) := by
  rw [Array.toList_setIfInBounds, List.drop_eq_getElem_cons (by simpa using h), List.getElem_set_self, List.drop_set_of_lt (by omega)]
theorem cell_of {w : World} {g i : Nat} {cur : Array Value} {t : TypeId} (h : w.heap[g]? = some (.cells cur t (0, 0))) (hi : i < cur.size) : w.cell? ⟨g, i, none⟩ = some cur[i] := by
  simp [World.cell?, h, hi]
theorem frozen_of {w : World} {g i : Nat} {cur : Array Value} {t : TypeId} (h : w.heap[g]? = some (.cells cur t (0, 0))) : w.frozen? ⟨g, i, none⟩ = false := by
  simp [World.frozen?, h]
theorem dig_val (r : Nat) : Value.int .u8 (48 + (r : Int) % 10) = u8 (r % 10 + 48).toUInt8 := by
  unfold u8
  congr 1
  have : (r % 10 + 48).toUInt8.toNat = r % 10 + 48 := by rw [Nat.toUInt8_eq, UInt8.toNat_ofNat']; omega
  rw [this]; omega
theorem below_setRow {B g : Nat} {w0 w : World} (hb : Below B w0 w) (hBg : B ≤ g) (cs : Array Value) : Below B w0 (w.setRow g cs) :=
  ⟨hb.os, hb.tape, hb.output, by rw [size_setRow]; exact hb.size, fun i hi => (setRow_other w g i cs (by omega)).trans (hb.block i hi)⟩
theorem World.heap_alloc_self {w : World} {o : Obj} : (w.alloc o).heap[w.heap.size]? = some o := by
  show (w.heap.push o)[w.heap.size]? = some o
  simp
theorem sl_arr (g a : Nat) (x : Int) (hx : x = (a : Int)) (ha : a < 20) (W : World) : (Instr.sliceAt 99 (.pointer (some ⟨g, 0, none⟩)) (some (.int .i64 x)) none none).run Tryz.prog W = .ok (.slice (some ⟨g, a, none⟩) (20 - a) (20 - a)) W := by
  have hal : Tryz.prog.arrayLen 99 = 20 := by simp [Program.arrayLen, Tryz.underlying99]
  subst hx
  rw [run_sliceAt_array_l W 99 ⟨g, 0, none⟩ (by simp [Program.arrayLen, Program.elem, Tryz.underlying99]) .i64 (a : Int) (by omega) (by rw [hal]; omega)]
  have hne : ¬ (20 = a) := by omega
  have e : (⟨g, 0, none⟩ : Addr).add a = ⟨g, a, none⟩ := by
    unfold Addr.add
    split
    · rename_i h; rw [h]
    · simp
  go_simp
theorem info_u8s : (Tryz.prog.info? 5).map (·.size) = some 1 := by kernel_rfl
def withSign (a : Nat) (cur : Array Value) : Array Value := (cur.toList.take a ++ Lib.byteCells [45] ++ cur.toList.drop (a + 1)).toArray
theorem withSign_size {a : Nat} {cur : Array Value} (hs : cur.size = 20) (ha : a < 20) : (withSign a cur).size = 20 := by
  simp [withSign, Lib.byteCells_length]; omega
theorem withSign_drop {a : Nat} {cur : Array Value} (hs : cur.size = 20) (ha : a < 20) : (withSign a cur).toList.drop a = u8 45 :: cur.toList.drop (a + 1) := by
  unfold withSign
  rw [List.toList_toArray, List.append_assoc, List.drop_append_of_le_length (by simp; omega), List.drop_of_length_le (by simp; omega), List.nil_append]
  rfl
def zeros20 : Array Value := #[.int .u8 0, .int .u8 0, .int .u8 0, .int .u8 0, .int .u8 0, .int .u8 0, .int .u8 0, .int .u8 0, .int .u8 0, .int .u8 0, .int .u8 0, .int .u8 0, .int .u8 0, .int .u8 0, .int .u8 0, .int .u8 0, .int .u8 0, .int .u8 0, .int .u8 0, .int .u8 0]
theorem conv_arr {w : World} {g a : Nat} {cur : Array Value} {t : TypeId} {l : List UInt8} (h : w.heap[g]? = some (.cells cur t (0, 0))) (hl : a + l.length = 20) (hs : cur.size = 20) (hd : cur.toList.drop a = l.map u8) :
    (convert 35 9 (.slice (some ⟨g, a, none⟩) (20 - a) (20 - a))).run Tryz.prog w = .ok (.string ⟨l.toArray⟩) w := by
  have e : 20 - a = l.length := by omega
  rw [e]
  refine run_convert_bytes_back (P := Tryz.prog) w 35 9 5 ⟨g, a, none⟩ _ l Tryz.underlying35 Tryz.underlying5 Tryz.underlying9 (fun j hj => ?_)
  rw [show (⟨g, a, none⟩ : Addr).add j = ⟨g, a + j, none⟩ by simp [Addr.add]]
  rw [cell_of h (show a + j < cur.size by omega)]
  have h2 : (cur.toList.drop a)[j]? = (l.map u8)[j]? := by rw [hd]
  rw [List.getElem?_drop, Array.getElem?_toList, Array.getElem?_eq_getElem (by omega)] at h2
  rw [h2]
  simp [hj, u8]
theorem dec_step {u r : Nat} {ds : List UInt8} (h : decD u = (if 0 < r then decD r else []) ++ ds) (hr : 0 < r) : decD u = (if 0 < r / 10 then decD (r / 10) else []) ++ ((r % 10 + 48).toUInt8 :: ds) := by
  rw [h, if_pos hr]
  by_cases h10 : r < 10
  · rw [decD_one h10, if_neg (by omega), Nat.mod_eq_of_lt h10]; rfl
  · rw [decD_more (by omega), if_pos (by omega)]; simp
theorem dec_first (u : Nat) : decD u = (if 0 < u / 10 then decD (u / 10) else []) ++ ((u % 10 + 48).toUInt8 :: []) := by
  by_cases h10 : u < 10
  · rw [decD_one h10, if_neg (by omega), Nat.mod_eq_of_lt h10]; rfl
  · rw [decD_more (by omega), if_pos (by omega)]

set_option maxHeartbeats 1000000 in
theorem print_any (n : Int) (h0 : -9223372036854775808 ≤ n) (h1 : n ≤ 9223372036854775807) (w : World) :
    Calls Tryz.prog 40 #[.int .i64 n] w fun e w' => e = .returned (.string ⟨(printL n).toArray⟩) ∧ Below w.heap.size w w' := by
  have cS := fun W => size_any n h0 h1 W
  obtain ⟨u, hu⟩ : ∃ u : Nat, n.natAbs = u := ⟨_, rfl⟩
  rw [show (if n < 0 then -n else n) = (u : Int) by split <;> omega] at cS
  have hu64 : u ≤ 9223372036854775808 := by omega
  have HI : Hid (printL n = if n < 0 then 45 :: decD u else decD u) := hid (by unfold printL; rw [hu])
  clear hu
  go_enter Tryz.func40, Tryz.ntmps40
  go_wp2_with (go_at_call 60; refine (cS _).mono ?_; rintro e w1 ⟨rfl, rfl⟩)
  go_loopw [4, 5] (fun x y wr => ∃ (a r : Nat) (ds : List UInt8) (cur : Array Value), x = .int .u64 r ∧ y = .int .i64 a ∧ 1 ≤ a ∧ a + ds.length = 20 ∧ r ≤ 9223372036854775808 ∧ cur.size = 20 ∧ wr.heap[w.heap.size]? = some (.cells cur 99 (0, 0)) ∧ Below w.heap.size w wr ∧ Hid (r < 10 ^ (a - 1)) ∧ Hid (cur.toList.drop a = ds.map u8) ∧ Hid (a = 20 ∧ r = u ∨ a < 20 ∧ decD u = (if 0 < r then decD r else []) ++ ds)) (fun _ y _ => (intOf y).toNat)
  case atStart =>
    refine ⟨20, u, [], zeros20, rfl, rfl, by omega, rfl, hu64, rfl, ?_, ?_, hid (by omega), hid rfl, hid (.inl ⟨rfl, rfl⟩)⟩
    · exact World.heap_alloc_self
    · exact (Below.refl _ _).alloc (Nat.le_refl _) _
  case round =>
    obtain ⟨a, r, ds, cur, rfl, rfl, ha1, ha, hr, hsz, hc, hb, HP, HD, HX⟩ := hrel
    by_cases hgo : a = 20 ∨ 0 < r
    · have hcell := cell_of hc (show a - 1 < cur.size by omega)
      have hfr := frozen_of (i := a - 1) hc
      have hcc := hid hc
      clear hc
      by_cases h20 : a = 20
      · subst h20
        go_wp2
        go_round
        case rel =>
          have hd := drop_set (v := .int .u8 (48 + (r : Int) % 10)) (show 19 < cur.size by omega)
          have e20 : ds = [] := List.eq_nil_of_length_eq_zero (by omega)
          subst e20
          refine ⟨19, r / 10, [(r % 10 + 48).toUInt8], _, by rw [Int.natCast_ediv]; rfl, rfl, by omega, rfl, by omega, ?_, heap_setCell_same _ _ _ _ _ _ hcc.out, hb.setCell (Nat.le_refl _) _, hid ?_, hid ?_, hid (.inr ⟨by omega, ?_⟩)⟩
          · rw [Array.size_setIfInBounds]; exact hsz
          · have := HP.out; simp only [Nat.add_one_sub_one] at this; omega
          · rw [hd, dig_val, List.drop_of_length_le (by rw [Array.length_toList]; omega)]; rfl
          · rcases HX.out with ⟨_, e⟩ | ⟨e, _⟩
            · rw [e]; exact dec_first u
            · omega
        case measure => simp [intOf]
      · have hr0 : 0 < r := by omega
        have g1 : ((a : Int) == 20) = false := by simp; omega
        go_wp2
        go_round
        case rel =>
          have hd := drop_set (v := .int .u8 (48 + (r : Int) % 10)) (show a - 1 < cur.size by omega)
          have hp : r < 10 ^ (a - 1) := HP.out
          have ha2 : 2 ≤ a := by
            by_cases h : a = 1
            · subst h; simp at hp; omega
            · omega
          refine ⟨a - 1, r / 10, (r % 10 + 48).toUInt8 :: ds, _, by rw [Int.natCast_ediv]; rfl, by go_num, by omega, by simp; omega, by omega, ?_, heap_setCell_same _ _ _ _ _ _ hcc.out, hb.setCell (Nat.le_refl _) _, hid ?_, hid ?_, hid (.inr ⟨by omega, ?_⟩)⟩
          · rw [Array.size_setIfInBounds]; exact hsz
          · rw [show a - 1 = (a - 1 - 1) + 1 by omega, Nat.pow_succ] at hp; omega
          · rw [hd, dig_val, show a - 1 + 1 = a by omega, HD.out]; rfl
          · rcases HX.out with ⟨e, _⟩ | ⟨_, e⟩
            · omega
            · exact dec_step e hr0
        case measure => simp [intOf]; omega
    · have hr0 : r = 0 := by omega
      subst hr0
      have ha20 : a < 20 := by omega
      have g1 : ((a : Int) == 20) = false := by simp; omega
      have HDD : Hid (decD u = ds) := hid (by
        rcases HX.out with ⟨e, _⟩ | ⟨_, e⟩
        · omega
        · simpa using e)
      by_cases hn : n < 0
      · have hsl := sl_arr w.heap.size (a - 1) ((a : Int) - 1) (by omega) (by omega)
        have hcp := Lib.run_copy_row_string (P := Tryz.prog) wr 35 9 3 5 w.heap.size (a - 1) (20 - (a - 1)) (20 - (a - 1)) ⟨#[45]⟩ cur 99 Tryz.underlying35 info_u8s hc (by show 1 ≤ _; omega) (by show a - 1 + 1 ≤ _; omega)
        have hcv := conv_arr (l := 45 :: ds) (setRow_heap wr w.heap.size cur (withSign (a - 1) cur) _ _ hc) (show a - 1 + (45 :: ds).length = 20 by simp; omega) (withSign_size hsz (by omega)) (by rw [withSign_drop hsz (by omega), show a - 1 + 1 = a by omega, HD.out]; rfl)
        change _ = Result.ok (goInt 1) (wr.setRow w.heap.size (withSign (a - 1) cur)) at hcp
        have HB := hid (below_setRow hb (Nat.le_refl _) (withSign (a - 1) cur))
        have HF : Hid (printL n = 45 :: ds) := hid (by rw [HI.out, if_pos hn, HDD.out])
        clear hc
        go_wp2
        go_ret
        exact ⟨by rw [HF.out]; rfl, HB.out⟩
      · have hsl := sl_arr w.heap.size a (a : Int) rfl (by omega)
        have hcv := conv_arr hc ha hsz HD.out
        have HF : Hid (printL n = ds) := hid (by rw [HI.out, if_neg hn, HDD.out])
        clear hc
        go_wp2
        go_ret
        exact ⟨by rw [HF.out]; rfl, hb⟩
end Go.Proofs.YtckmgcdiclkoeaaGreatDoor
