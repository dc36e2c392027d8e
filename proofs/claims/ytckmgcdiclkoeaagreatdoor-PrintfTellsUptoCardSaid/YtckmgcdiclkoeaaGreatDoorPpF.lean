
/- strconv.FormatUint in base 8 and 16: the number's digits. Condition: Go's table of bits is laid where it is read. -/
import Derived.Test.YtckmgcdiclkoeaaGreatDoorPrN
import Derived.Test.YtckmgcdiclkoeaaGreatDoorSzT
import Derived.RegionTactic
import Derived.Laws.BitsAllLaws
import Derived.BigRegion
namespace Go.Proofs.YtckmgcdiclkoeaaGreatDoor
open Go.RowKit
open Go.Lib (hid)

/-- Two places of Go's table of bits. -/
def Tab (w : World) : Prop := w.cell? ⟨5, 7, none⟩ = some (.int .u8 3) ∧ w.cell? ⟨5, 15, none⟩ = some (.int .u8 4)
theorem Tab.below {w w' : World} (h : Tab w) (hb : Below w.heap.size w w') : Tab w' := ⟨cell_below hb h.1, cell_below hb h.2⟩
theorem Tab.drewN {w : World} (h : Tab w) (n : Nat) : Tab (w.drewN n) := h
theorem Tab.drew {w : World} (h : Tab w) : Tab w.drew := h

set_option maxRecDepth 100000 in
set_option maxHeartbeats 1000000 in
theorem tz8 (w : World) (h : Tab w) : Calls Tryz.prog 105 #[.int .u64 8] w fun e w' => e = .returned (.int .i64 3) ∧ w' = w := by
  have h0 := h.1
  clear h
  have hA : bits BinOp.and IntKind.u64 8 (IntKind.u64.wrap (-8)) = 8 := by kernel_rfl
  have hM : IntKind.u64.wrap 2286961704410830920 = 2286961704410830920 := by kernel_rfl
  go_enter Tryz.func105, Tryz.ntmps105
  go_wp2
  go_ret
  exact ⟨rfl, rfl⟩
set_option maxRecDepth 100000 in
set_option maxHeartbeats 1000000 in
theorem tz16 (w : World) (h : Tab w) : Calls Tryz.prog 105 #[.int .u64 16] w fun e w' => e = .returned (.int .i64 4) ∧ w' = w := by
  have h0 := h.2
  clear h
  have hA : bits BinOp.and IntKind.u64 16 (IntKind.u64.wrap (-16)) = 16 := by kernel_rfl
  have hM : IntKind.u64.wrap 4573923408821661840 = 4573923408821661840 := by kernel_rfl
  go_enter Tryz.func105, Tryz.ntmps105
  go_wp2
  go_ret
  exact ⟨rfl, rfl⟩
theorem sl_arr65 (g a : Nat) (x : Int) (hx : x = (a : Int)) (ha : a < 65) (W : World) : (Instr.sliceAt 131 (.pointer (some ⟨g, 0, none⟩)) (some (.int .i64 x)) none none).run Tryz.prog W = .ok (.slice (some ⟨g, a, none⟩) (65 - a) (65 - a)) W := by
  have hal : Tryz.prog.arrayLen 131 = 65 := by simp [Program.arrayLen, Tryz.underlying131]
  subst hx
  rw [run_sliceAt_array_l W 131 ⟨g, 0, none⟩ (by simp [Program.arrayLen, Program.elem, Tryz.underlying131]) .i64 (a : Int) (by omega) (by rw [hal]; omega)]
  have hne : ¬ (65 = a) := by omega
  have e : (⟨g, 0, none⟩ : Addr).add a = ⟨g, a, none⟩ := by
    unfold Addr.add
    split
    · rename_i h; rw [h]
    · simp
  go_simp
theorem conv_arr65 {w : World} {g a : Nat} {cur : Array Value} {t : TypeId} {l : List UInt8} (h : w.heap[g]? = some (.cells cur t (0, 0))) (hl : a + l.length = 65) (hs : cur.size = 65) (hd : cur.toList.drop a = l.map u8) :
    (convert 35 9 (.slice (some ⟨g, a, none⟩) (65 - a) (65 - a))).run Tryz.prog w = .ok (.string ⟨l.toArray⟩) w := by
  have e : 65 - a = l.length := by omega
  rw [e]
  refine run_convert_bytes_back (P := Tryz.prog) w 35 9 5 ⟨g, a, none⟩ _ l Tryz.underlying35 Tryz.underlying5 Tryz.underlying9 (fun j hj => ?_)
  rw [show (⟨g, a, none⟩ : Addr).add j = ⟨g, a + j, none⟩ by simp [Addr.add]]
  rw [cell_of h (show a + j < cur.size by omega)]
  have h2 : (cur.toList.drop a)[j]? = (l.map u8)[j]? := by rw [hd]
  rw [List.getElem?_drop, Array.getElem?_toList, Array.getElem?_eq_getElem (by omega)] at h2
  rw [h2]
  simp [hj, u8]
def digs36 : ByteArray := ⟨#[48, 49, 50, 51, 52, 53, 54, 55, 56, 57, 97, 98, 99, 100, 101, 102, 103, 104, 105, 106, 107, 108, 109, 110, 111, 112, 113, 114, 115, 116, 117, 118, 119, 120, 121, 122]⟩
theorem digs_at (k : Nat) (h : k < 16) : ∀ h2, digs36[k]'h2 = hexD k := fun _ => by
  have : ∀ k : Fin 16, digs36[k.1]'(Nat.lt_of_lt_of_le k.2 (by decide)) = hexD k.1 := by decide +kernel
  exact this ⟨k, h⟩

set_option maxRecDepth 100000 in
set_option maxHeartbeats 400000 in
theorem pow8 (w : World) : Calls Tryz.prog 97 #[.int .i64 8] w fun e w' => e = .returned (.bool true) ∧ w' = w := by
  have hpow : bits BinOp.and IntKind.i64 8 7 = 0 := by kernel_rfl
  go_enter Tryz.func97, Tryz.ntmps97
  go_wp2
  go_ret
  exact ⟨by simp, rfl⟩
set_option maxRecDepth 100000 in
set_option maxHeartbeats 400000 in
theorem trail8 (w : World) (hT : Tab w) : Calls Tryz.prog 98 #[.int .u64 8] w fun e w' => e = .returned (.int .i64 3) ∧ w' = w := by
  have c := tz8 w hT
  go_enter Tryz.func98, Tryz.ntmps98
  go_wp2_with (go_at_call 105; refine c.mono ?_; rintro e w1 ⟨rfl, rfl⟩)
  go_ret
  exact ⟨rfl, rfl⟩

set_option maxRecDepth 100000 in
set_option maxHeartbeats 2000000 in
theorem bits8 (u : Nat) (hu : u < 18446744073709551616) (w : World) (hT : Tab w) :
    Calls Tryz.prog 84 #[.slice none 0 0, .int .u64 u, .int .i64 8, .bool false, .bool false] w fun e w' => ∃ v, e = .returned (.tuple #[v, encS (basL 8 u)]) ∧ Below w.heap.size w w' := by
  have cP := fun W => pow8 W
  have cT := trail8 (w.alloc (.cells Tryz.zeroCells131 131)) (hT.below ((Below.refl _ _).alloc (Nat.le_refl _) _))
  have hz : Tryz.zeroCells131.size = 65 := by kernel_rfl
  go_enter Tryz.func84, Tryz.ntmps84
  go_wp2_with (first | (go_at_call 97; refine (cP _).mono ?_; rintro e w1 ⟨rfl, rfl⟩) | (go_at_call 98; refine cT.mono ?_; rintro e w2 ⟨rfl, rfl⟩))
  go_loopw [1, 13] (fun x y wr => ∃ (a r : Nat) (ds : List UInt8) (cur : Array Value), x = .int .u64 r ∧ y = .int .i64 a ∧ 1 ≤ a ∧ a + ds.length = 65 ∧ r < 18446744073709551616 ∧ cur.size = 65 ∧ wr.heap[w.heap.size]? = some (.cells cur 131 (0, 0)) ∧ Below w.heap.size w wr ∧ Hid (r < 2 ^ (a - 1)) ∧ Hid (cur.toList.drop a = ds.map u8) ∧ Hid (basL 8 u = basL 8 r ++ ds)) (fun _ y _ => (intOf y).toNat)
  case atStart =>
    exact ⟨65, u, [], _, rfl, rfl, by omega, rfl, hu, hz, World.heap_alloc_self, (Below.refl _ _).alloc (Nat.le_refl _) _, hid (by omega), hid (by rw [List.drop_of_length_le (by rw [Array.length_toList, hz]; omega)]; rfl), hid (by simp)⟩
  case round =>
    obtain ⟨a, r, ds, cur, rfl, rfl, ha1, ha, hr, hsz, hc, hb, HP, HD, HX⟩ := hrel
    have hcell := cell_of hc (show a - 1 < cur.size by omega)
    have hfr := frozen_of (i := a - 1) hc
    have hcc := hid hc
    have ha65 : a ≤ 65 := by omega
    by_cases hgo : 8 ≤ r
    · have hand : bits BinOp.and IntKind.u64 (r : Int) 7 = ((r % 8 : Nat) : Int) := by
        have := u64_and_nat r 7 hr (by omega)
        rw [show r &&& 7 = r % 8 from Nat.and_two_pow_sub_one_eq_mod r 3] at this
        exact this
      obtain ⟨m, hm⟩ : ∃ m, r % 8 = m := ⟨_, rfl⟩
      rw [hm] at hand
      have hm16 : m < 16 := by omega
      have hdg := digs_at m hm16
      unfold digs36 at hdg
      obtain ⟨x, hx⟩ : ∃ x, hexD m = x := ⟨_, rfl⟩
      rw [hx] at hdg
      have hge : (8 : Int) ≤ (r : Int) := by omega
      have hm36 : (m : Int) < 36 := by omega
      clear hc
      go_wp2
      go_round
      case rel =>
        have hp : r < 2 ^ (a - 1) := HP.out
        have ha2 : 2 ≤ a := by
          rcases Nat.lt_or_ge a 2 with h | h
          · have : a = 1 := by omega
            subst this
            simp at hp
            omega
          · exact h
        have hd := drop_set (v := .int .u8 x.toNat) (show a - 1 < cur.size by omega)
        have h2 : 2 ^ (a - 1) = 2 ^ (a - 1 - 1) * 2 := by rw [← Nat.pow_succ, show (a - 1 - 1).succ = a - 1 by omega]
        refine ⟨a - 1, r / 8, x :: ds, _, by rw [Int.natCast_ediv]; rfl, by go_num, by omega, by simp; omega, by omega, ?_, heap_setCell_same _ _ _ _ _ _ hcc.out, hb.setCell (Nat.le_refl _) _, hid (by omega), hid ?_, hid ?_⟩
        · rw [Array.size_setIfInBounds]; exact hsz
        · rw [hd, show a - 1 + 1 = a by omega, HD.out]; rfl
        · rw [HX.out, basL_more (by omega) hgo, hm, hx]; simp
      case measure => simp [intOf]; omega
    · have hm16 : r < 16 := by omega
      have hdg := digs_at r hm16
      unfold digs36 at hdg
      obtain ⟨x, hx⟩ : ∃ x, hexD r = x := ⟨_, rfl⟩
      rw [hx] at hdg
      have hge : ¬ (8 : Int) ≤ (r : Int) := by omega
      have hm36 : (r : Int) < 36 := by omega
      have hd := drop_set (v := .int .u8 x.toNat) (show a - 1 < cur.size by omega)
      have hsl := sl_arr65 w.heap.size (a - 1) ((a : Int) - 1) (by omega) (by omega)
      have hcv := conv_arr65 (w := wr.setCell ⟨w.heap.size, a - 1, none⟩ (.int .u8 x.toNat)) (l := x :: ds) (heap_setCell_same _ _ _ _ _ _ hc) (show a - 1 + (x :: ds).length = 65 by simp; omega) (by rw [Array.size_setIfInBounds]; exact hsz) (by rw [hd, show a - 1 + 1 = a by omega, HD.out]; rfl)
      have HF : Hid (basL 8 u = x :: ds) := hid (by rw [HX.out, basL_one (by omega), hx]; rfl)
      have HB := hid (hb.setCell (p := ⟨w.heap.size, a - 1, none⟩) (Nat.le_refl _) (.int .u8 x.toNat))
      clear hc hd
      go_wp2
      go_ret2
      exact ⟨⟨_, by rw [HF.out]; rfl⟩, HB.out⟩

set_option maxRecDepth 100000 in
set_option maxHeartbeats 400000 in
theorem pow16 (w : World) : Calls Tryz.prog 97 #[.int .i64 16] w fun e w' => e = .returned (.bool true) ∧ w' = w := by
  have hpow : bits BinOp.and IntKind.i64 16 15 = 0 := by kernel_rfl
  go_enter Tryz.func97, Tryz.ntmps97
  go_wp2
  go_ret
  exact ⟨by simp, rfl⟩
set_option maxRecDepth 100000 in
set_option maxHeartbeats 400000 in
theorem trail16 (w : World) (hT : Tab w) : Calls Tryz.prog 98 #[.int .u64 16] w fun e w' => e = .returned (.int .i64 4) ∧ w' = w := by
  have c := tz16 w hT
  go_enter Tryz.func98, Tryz.ntmps98
  go_wp2_with (go_at_call 105; refine c.mono ?_; rintro e w1 ⟨rfl, rfl⟩)
  go_ret
  exact ⟨rfl, rfl⟩

set_option maxRecDepth 100000 in
set_option maxHeartbeats 2000000 in
theorem bits16 (u : Nat) (hu : u < 18446744073709551616) (w : World) (hT : Tab w) :
    Calls Tryz.prog 84 #[.slice none 0 0, .int .u64 u, .int .i64 16, .bool false, .bool false] w fun e w' => ∃ v, e = .returned (.tuple #[v, encS (basL 16 u)]) ∧ Below w.heap.size w w' := by
  have cP := fun W => pow16 W
  have cT := trail16 (w.alloc (.cells Tryz.zeroCells131 131)) (hT.below ((Below.refl _ _).alloc (Nat.le_refl _) _))
  have hz : Tryz.zeroCells131.size = 65 := by kernel_rfl
  go_enter Tryz.func84, Tryz.ntmps84
  go_wp2_with (first | (go_at_call 97; refine (cP _).mono ?_; rintro e w1 ⟨rfl, rfl⟩) | (go_at_call 98; refine cT.mono ?_; rintro e w2 ⟨rfl, rfl⟩))
  go_loopw [1, 13] (fun x y wr => ∃ (a r : Nat) (ds : List UInt8) (cur : Array Value), x = .int .u64 r ∧ y = .int .i64 a ∧ 1 ≤ a ∧ a + ds.length = 65 ∧ r < 18446744073709551616 ∧ cur.size = 65 ∧ wr.heap[w.heap.size]? = some (.cells cur 131 (0, 0)) ∧ Below w.heap.size w wr ∧ Hid (r < 2 ^ (a - 1)) ∧ Hid (cur.toList.drop a = ds.map u8) ∧ Hid (basL 16 u = basL 16 r ++ ds)) (fun _ y _ => (intOf y).toNat)
  case atStart =>
    exact ⟨65, u, [], _, rfl, rfl, by omega, rfl, hu, hz, World.heap_alloc_self, (Below.refl _ _).alloc (Nat.le_refl _) _, hid (by omega), hid (by rw [List.drop_of_length_le (by rw [Array.length_toList, hz]; omega)]; rfl), hid (by simp)⟩
  case round =>
    obtain ⟨a, r, ds, cur, rfl, rfl, ha1, ha, hr, hsz, hc, hb, HP, HD, HX⟩ := hrel
    have hcell := cell_of hc (show a - 1 < cur.size by omega)
    have hfr := frozen_of (i := a - 1) hc
    have hcc := hid hc
    have ha65 : a ≤ 65 := by omega
    by_cases hgo : 16 ≤ r
    · have hand : bits BinOp.and IntKind.u64 (r : Int) 15 = ((r % 16 : Nat) : Int) := by
        have := u64_and_nat r 15 hr (by omega)
        rw [show r &&& 15 = r % 16 from Nat.and_two_pow_sub_one_eq_mod r 4] at this
        exact this
      obtain ⟨m, hm⟩ : ∃ m, r % 16 = m := ⟨_, rfl⟩
      rw [hm] at hand
      have hm16 : m < 16 := by omega
      have hdg := digs_at m hm16
      unfold digs36 at hdg
      obtain ⟨x, hx⟩ : ∃ x, hexD m = x := ⟨_, rfl⟩
      rw [hx] at hdg
      have hge : (16 : Int) ≤ (r : Int) := by omega
      have hm36 : (m : Int) < 36 := by omega
      clear hc
      go_wp2
      go_round
      case rel =>
        have hp : r < 2 ^ (a - 1) := HP.out
        have ha2 : 2 ≤ a := by
          rcases Nat.lt_or_ge a 2 with h | h
          · have : a = 1 := by omega
            subst this
            simp at hp
            omega
          · exact h
        have hd := drop_set (v := .int .u8 x.toNat) (show a - 1 < cur.size by omega)
        have h2 : 2 ^ (a - 1) = 2 ^ (a - 1 - 1) * 2 := by rw [← Nat.pow_succ, show (a - 1 - 1).succ = a - 1 by omega]
        refine ⟨a - 1, r / 16, x :: ds, _, by rw [Int.natCast_ediv]; rfl, by go_num, by omega, by simp; omega, by omega, ?_, heap_setCell_same _ _ _ _ _ _ hcc.out, hb.setCell (Nat.le_refl _) _, hid (by omega), hid ?_, hid ?_⟩
        · rw [Array.size_setIfInBounds]; exact hsz
        · rw [hd, show a - 1 + 1 = a by omega, HD.out]; rfl
        · rw [HX.out, basL_more (by omega) hgo, hm, hx]; simp
      case measure => simp [intOf]; omega
    · have hm16 : r < 16 := by omega
      have hdg := digs_at r hm16
      unfold digs36 at hdg
      obtain ⟨x, hx⟩ : ∃ x, hexD r = x := ⟨_, rfl⟩
      rw [hx] at hdg
      have hge : ¬ (16 : Int) ≤ (r : Int) := by omega
      have hm36 : (r : Int) < 36 := by omega
      have hd := drop_set (v := .int .u8 x.toNat) (show a - 1 < cur.size by omega)
      have hsl := sl_arr65 w.heap.size (a - 1) ((a : Int) - 1) (by omega) (by omega)
      have hcv := conv_arr65 (w := wr.setCell ⟨w.heap.size, a - 1, none⟩ (.int .u8 x.toNat)) (l := x :: ds) (heap_setCell_same _ _ _ _ _ _ hc) (show a - 1 + (x :: ds).length = 65 by simp; omega) (by rw [Array.size_setIfInBounds]; exact hsz) (by rw [hd, show a - 1 + 1 = a by omega, HD.out]; rfl)
      have HF : Hid (basL 16 u = x :: ds) := hid (by rw [HX.out, basL_one (by omega), hx]; rfl)
      have HB := hid (hb.setCell (p := ⟨w.heap.size, a - 1, none⟩) (Nat.le_refl _) (.int .u8 x.toNat))
      clear hc hd
      go_wp2
      go_ret2
      exact ⟨⟨_, by rw [HF.out]; rfl⟩, HB.out⟩

theorem fmt_any (b : Nat) (hb : b = 8 ∨ b = 16) (u : Nat) (hu : u < 18446744073709551616) (w : World) (hT : Tab w) :
    Calls Tryz.prog 38 #[.int .u64 u, .int .i64 b] w fun e w' => e = .returned (encS (basL b u)) ∧ Below w.heap.size w w' := by
  have cB : Calls Tryz.prog 84 #[.slice none 0 0, .int .u64 u, .int .i64 b, .bool false, .bool false] w fun e w' => ∃ v, e = .returned (.tuple #[v, encS (basL b u)]) ∧ Below w.heap.size w w' := by
    rcases hb with rfl | rfl
    · exact bits8 u hu w hT
    · exact bits16 u hu w hT
  have h10 : ((b : Int) == 10) = false := by rcases hb with rfl | rfl <;> rfl
  have cF : Calls Tryz.prog 59 #[.int .u64 u, .int .i64 b] w fun e w' => e = .returned (encS (basL b u)) ∧ Below w.heap.size w w' := by
    go_enter Tryz.func59, Tryz.ntmps59
    go_wp2_with (go_at_call 84; refine cB.mono ?_; rintro e w1 ⟨v, rfl, hb1⟩)
    go_ret
    exact ⟨rfl, hb1⟩
  clear cB h10
  go_enter Tryz.func38, Tryz.ntmps38
  go_wp2_with (go_at_call 59; refine cF.mono ?_; rintro e w1 ⟨rfl, hb1⟩)
  go_ret
  exact ⟨rfl, hb1⟩

end Go.Proofs.YtckmgcdiclkoeaaGreatDoor
