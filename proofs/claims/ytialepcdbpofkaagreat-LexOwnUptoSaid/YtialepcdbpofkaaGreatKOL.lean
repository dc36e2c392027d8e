/- What the statement of Own13Said leans on, part 12: AoD, AoE, LyH, LyT, LyU, LyV. Conditions: each theorem's own. -/
import Derived.Test.YtialepcdbpofkaaGreatKOK

namespace Go.Proofs.YtialepcdbpofkaaGreat
namespace Ans
open Go.RowKit
open Go.Lib (hid)
def decEnd (n : Nat) : Except (Nat × Int) (List UInt8) → Ending
  | .ok t => .returned (.tuple #[.string ⟨t.toArray⟩, .int .i64 n, .int .i64 0])
  | .error x => .returned (.tuple #[.string .empty, .int .i64 x.1, .int .i64 x.2])
theorem below_cells {B : Nat} {s : Value} {n e : Int} {w w' : World} (h : Cells3 B s n e w) (hb : Below (B + 3) w w') : Cells3 B s n e w' := by
  obtain ⟨h1, h2, h3⟩ := h
  exact ⟨(hb.block B (by omega)).trans h1, (hb.block (B + 1) (by omega)).trans h2, (hb.block (B + 2) (by omega)).trans h3⟩
def W3 (w : World) : World := ((w.alloc (.cells #[.string .empty] 9)).alloc (.cells #[.int .i64 0] 3)).alloc (.cells #[.int .i64 0] 26)
theorem cells_W3 (w : World) : Cells3 w.heap.size (.string .empty) 0 0 (W3 w) := by
  have h1 := heap_alloc_new w (.cells #[.string .empty] 9)
  have h2 := heap_alloc_new (w.alloc (.cells #[.string .empty] 9)) (.cells #[.int .i64 0] 3)
  have h3 := heap_alloc_new ((w.alloc (.cells #[.string .empty] 9)).alloc (.cells #[.int .i64 0] 3)) (.cells #[.int .i64 0] 26)
  simp only [World.size_alloc] at h2 h3
  refine ⟨?_, ?_, h3⟩
  · exact (Below.heap_alloc _ _ _ (by simp; omega)).trans ((Below.heap_alloc _ _ _ (by simp)).trans h1)
  · exact (Below.heap_alloc _ _ _ (by simp)).trans h2
theorem below_W3 (w : World) : Below w.heap.size w (W3 w) := (((Below.refl _ w).alloc (Nat.le_refl _) _).alloc (by simp) _).alloc (by simp; omega) _
theorem size_W3 (w : World) : (W3 w).heap.size = w.heap.size + 3 := by simp [W3]
set_option maxHeartbeats 2000000 in
theorem decode_any (s : ByteArray) (w : World) (hs : s.size ≤ 140737488355327) :
    Calls Tryz.prog 74 #[.string s] w fun e w' => e = decEnd s.size (dec 0 s.data.toList) ∧ Below w.heap.size w w' := by
  have hmf : ∀ (fn : Fn) (first cap : Array Value) (w : World), (Instr.makeFunc fn first cap).run Tryz.prog w = .ok (.func fn first cap) w := fun _ _ _ _ => rfl
  obtain ⟨i0, hi, hz0, hz1, hz2⟩ := info_parts info_u8
  go_enter_defers Tryz.func74, Tryz.ntmps74
  go_wp2
  go_loopw [5, 6] (fun v i wr => ∃ (k : Nat) (bs : List UInt8), k ≤ s.size ∧ bs.length ≤ k ∧ i = .int .i64 k ∧ Below (w.heap.size + 3) (W3 w) wr ∧ wr.ownsRow (w.heap.size + 3) 5 1 v bs.length (bs.map u8) ∧ Hid (dec 0 s.data.toList = pre bs (dec k (s.data.toList.drop k)))) (fun _ i _ => s.size - (intOf i).toNat)
  case atStart => exact ⟨0, [], Nat.zero_le _, Nat.le_refl _, rfl, Below.refl _ _, World.ownsRow_nil _ _ _ _, hid (pre_nil _).symm⟩
  case round =>
    obtain ⟨k, bs, hk, hbl, rfl, hB, hown, HR⟩ := hrel
    have hcl := below_cells (cells_W3 w) hB
    have hBw : Below w.heap.size w wr := (below_W3 w).trans (hB.mono (by omega))
    have hsz : w.heap.size + 3 ≤ wr.heap.size := by have := hB.size; rw [size_W3] at this; exact this
    by_cases hlt : k < s.size
    · have cO := fun W => octet_any s k (by unfold maxLen; omega) hlt W
      cases ho : octL (s.data.toList.drop k) with
      | error e =>
        rw [ho] at cO
        change ∀ W, Calls _ _ _ W (fun e' w' => e' = .panicked [faultV e k] ∧ W = w') at cO
        have HD : Hid (dec 0 s.data.toList = .error (k, e)) := hid (by
          rw [HR.out, dec_error (fun h => by have := congrArg List.length h; rw [List.length_drop, len_toList] at this; simp at this; omega) ho]; rfl)
        clear ho HR
        go_wp2_with (go_at_call 90; (with_reducible refine (cO _).mono ?_); rintro e w' ⟨rfl, rfl⟩)
        refine leaves_cons (f := 89) (args := #[.pointer (some ⟨w.heap.size, 0, none⟩), .pointer (some ⟨w.heap.size + 1, 0, none⟩), .pointer (some ⟨w.heap.size + 2, 0, none⟩)]) (by simp) (by simp [go_sem]) ?_
        refine (fixed_panic w.heap.size _ _ _ k e [] _ hcl).mono ?_
        rintro e' u' w2 ⟨rfl, rfl, hc3, hb3⟩
        have c1 := cell_of_one hc3.1
        have c2 := cell_of_one hc3.2.1
        have c3 := cell_of_one hc3.2.2
        have HB := hid (hBw.trans hb3)
        clear hc3 hb3 hcl
        simp [Leaves, settle, results, Tryz.results74, go_sem, c1, c2, c3]
        exact ⟨by rw [HD.out]; rfl, HB.out⟩
      | ok p =>
        obtain ⟨b, j⟩ := p
        rw [ho] at cO
        change ∀ W, Calls _ _ _ W (fun e' w' => e' = .returned (.tuple #[.int .u8 b.toNat, .int .i64 j]) ∧ W = w') at cO
        have hj := octL_ok ho
        rw [List.length_drop, len_toList] at hj
        have HD : Hid (dec 0 s.data.toList = pre (bs ++ [b]) (dec (k + j) (s.data.toList.drop (k + j)))) := hid (by
          rw [HR.out, pre_ok bs ho, List.drop_drop])
        obtain ⟨-, hj1, hj2⟩ := hj
        clear ho HR
        go_wp2_with (first | (go_at_call 90; (with_reducible refine (cO _).mono ?_); rintro e w' ⟨rfl, rfl⟩) | (at_builtin; refine wpList_append_own _ rfl _ _ 59 rfl (w.heap.size + 3) 5 i0 (.int .u8 0) 1 1 Tryz.underlying59 hi hz0 hz1 hz2 rfl (by decide) _ _ _ rfl (hown.alloc _) ⟨wr.heap.size, 0, none⟩ 1 1 [.int .u8 b.toNat] rfl rfl ?c1 ?c2 ?c3 ?c4 ?c5 ?_))
        case c1 =>
          intro j u hj
          match j, hj with
          | 0, hj => simp at hj; subst hj; simp [Addr.add]
        case c2 => intro u hu; simp at hu; subst hu; rfl
        case c3 => unfold maxLen; omega
        case c4 => omega
        case c5 => simp; omega
        intro v' w3 hown' hg _
        have hB3 : Below (w.heap.size + 3) (W3 w) w3 := ((hB.alloc hsz _).grown hg (by simp; omega) (fun k hk => (hown.lt k hk).1))
        have ho3 := own_snoc hown'
        have HO := hid ho3
        clear hown' ho3 hg hown
        go_wp2
        go_roundw
        case rel => exact ⟨k + j, _, by omega, by simp; omega, by go_num, hB3, HO.out, HD⟩
        case measure => simp [intOf]; omega
    · obtain rfl : k = s.size := by omega
      have HD : Hid (dec 0 s.data.toList = .ok bs) := hid (by
        rw [HR.out, List.drop_of_length_le (by rw [len_toList]; exact Nat.le_refl _), dec_nil]; simp [pre])
      have hcv := conv_any hown
      have hst := hcl.stored (.string ⟨bs.toArray⟩) (s.size : Int) 0
      have hbb : Below w.heap.size w (((wr.setCell ⟨w.heap.size, 0, none⟩ (.string ⟨bs.toArray⟩)).setCell ⟨w.heap.size + 1, 0, none⟩ (.int .i64 s.size)).setCell ⟨w.heap.size + 2, 0, none⟩ (.int .i64 0)) :=
        ((hBw.setCell (Nat.le_refl _) _).setCell (Nat.le_add_right _ _) _).setCell (Nat.le_add_right _ _) _
      have a1 := cell_of_one hcl.1
      have a2 := cell_of_one hcl.2.1
      have a3 := cell_of_one hcl.2.2
      have f1 := free_of_one hcl.1
      have f2 := free_of_one hcl.2.1
      have f3 := free_of_one hcl.2.2
      have HS := hid hst
      have HB := hid hbb
      clear HR hlt hown hst hbb hcl hB hBw hsz
      go_wp2
      refine leaves_cons (f := 89) (args := #[.pointer (some ⟨w.heap.size, 0, none⟩), .pointer (some ⟨w.heap.size + 1, 0, none⟩), .pointer (some ⟨w.heap.size + 2, 0, none⟩)]) (by simp) (by simp [go_sem]) ?_
      refine (fixed_idle _ _ _ _).mono ?_
      rintro e' u' w2 ⟨rfl, rfl, rfl⟩
      have c1 := cell_of_one HS.out.1
      have c2 := cell_of_one HS.out.2.1
      have c3 := cell_of_one HS.out.2.2
      simp [Leaves, settle, results, Tryz.results74, go_sem, c1, c2, c3]
      exact ⟨by rw [HD.out]; rfl, HB.out⟩
end Ans
end Go.Proofs.YtialepcdbpofkaaGreat

namespace Go.Proofs.YtialepcdbpofkaaGreat
namespace Ans
open Go.RowKit
open Go.Lib (hid)
def scanL : Bool → Nat → List UInt8 → Option Nat
  | _, _, [] => none
  | true, i, _ :: r => scanL false (i + 1) r
  | false, i, c :: r => if c = 92 then scanL true (i + 1) r else if c = 39 then some i else scanL false (i + 1) r
def scanEnd (n : Nat) : Option Nat → Ending
  | some p => .returned (.tuple #[.int .i64 p, .int .i64 0])
  | none => .returned (.tuple #[.int .i64 n, .int .i64 8])
set_option maxHeartbeats 2000000 in
theorem scan_any (s : ByteArray) (a : Nat) (ha : a ≤ s.size) (w : World) (hs : s.size ≤ maxLen) :
    Calls Tryz.prog 73 #[.string s, .int .i64 a] w fun e w' => e = scanEnd s.size (scanL false a (s.data.toList.drop a)) ∧ w = w' := by
  unfold maxLen at hs
  have e1 : decide (s.size < a) = false := decide_eq_false (by omega)
  have e2 : decide ((a : Int) < 0) = false := decide_eq_false (by omega)
  go_enter Tryz.func73, Tryz.ntmps73
  go_wp2
  go_loop [6, 21] (fun t i => ∃ (k : Nat) (b : Bool), a + k ≤ s.size ∧ t = .bool b ∧ i = .int .i64 k ∧ Hid (scanL false a (s.data.toList.drop a) = scanL b (a + k) (s.data.toList.drop (a + k)))) (fun _ i => s.size - a - (intOf i).toNat)
  case atStart => exact ⟨0, false, by omega, rfl, rfl, hid rfl⟩
  case round =>
    obtain ⟨k, b, hk, rfl, rfl, HR⟩ := hrel
    by_cases hlt : a + k < s.size
    · have HD : Hid (s.data.toList.drop (a + k) = s[a + k] :: s.data.toList.drop (a + (k + 1))) := hid (List.drop_eq_getElem_cons (by simpa using hlt))
      cases b
      · by_cases h1 : s[a + k] = 92
        · have g1 : ((s[a + k].toNat : Int) == 92) = true := by rw [h1]; rfl
          have HN : Hid (scanL false a (s.data.toList.drop a) = scanL true (a + (k + 1)) (s.data.toList.drop (a + (k + 1)))) := hid (by rw [HR.out, HD.out, scanL, if_pos h1]; rfl)
          clear h1 HR HD
          go_wp2
          go_round
          case rel => exact ⟨k + 1, true, by omega, rfl, by go_num, HN⟩
          case measure => simp [intOf]; omega
        · have g1 : ((s[a + k].toNat : Int) == 92) = false := u8_ne (n := 92) h1
          by_cases h2 : s[a + k] = 39
          · have g2 : ((s[a + k].toNat : Int) == 39) = true := by rw [h2]; rfl
            have HN : Hid (scanL false a (s.data.toList.drop a) = some (a + k)) := hid (by rw [HR.out, HD.out, scanL, if_neg h1, if_pos h2])
            clear h1 h2 HR HD
            go_wp2
            go_ret2
            exact ⟨by rw [HN.out]; exact ret_two (by simp) rfl, rfl⟩
          · have g2 : ((s[a + k].toNat : Int) == 39) = false := u8_ne (n := 39) h2
            have HN : Hid (scanL false a (s.data.toList.drop a) = scanL false (a + (k + 1)) (s.data.toList.drop (a + (k + 1)))) := hid (by rw [HR.out, HD.out, scanL, if_neg h1, if_neg h2]; rfl)
            clear h1 h2 HR HD
            go_wp2
            go_round
            case rel => exact ⟨k + 1, false, by omega, rfl, by go_num, HN⟩
            case measure => simp [intOf]; omega
      · have HN : Hid (scanL false a (s.data.toList.drop a) = scanL false (a + (k + 1)) (s.data.toList.drop (a + (k + 1)))) := hid (by rw [HR.out, HD.out, scanL]; rfl)
        clear HR HD
        go_wp2
        go_round
        case rel => exact ⟨k + 1, false, by omega, rfl, by go_num, HN⟩
        case measure => simp [intOf]; omega
    · have HN : Hid (scanL false a (s.data.toList.drop a) = none) := hid (by rw [HR.out, List.drop_of_length_le (by rw [len_toList]; omega)]; cases b <;> rfl)
      clear HR
      go_wp2
      go_ret2
      exact ⟨by rw [HN.out]; rfl, rfl⟩
end Ans
end Go.Proofs.YtialepcdbpofkaaGreat
namespace Go.Proofs.YtialepcdbpofkaaGreat
open Go.RowKit
open Go.Lib (hid)
theorem scan_bounds : ∀ (l : List UInt8) (b : Bool) (i e : Nat), Ans.scanL b i l = some e → i ≤ e ∧ e < i + l.length
  | [], b, i, e, h => by cases b <;> simp [Ans.scanL] at h
  | c :: r, true, i, e, h => by
    rw [Ans.scanL] at h
    have := scan_bounds r false (i + 1) e h
    simp only [List.length_cons]; omega
  | c :: r, false, i, e, h => by
    rw [Ans.scanL] at h
    split at h
    · have := scan_bounds r true (i + 1) e h
      simp only [List.length_cons]; omega
    · split at h
      · cases h; simp only [List.length_cons]; omega
      · have := scan_bounds r false (i + 1) e h
        simp only [List.length_cons]; omega
def ansiPt (t : List UInt8) : Pt := ⟨1, t, [], [97, 110, 115, 105], true, .no, .no, .no, .no, 0⟩
set_option maxRecDepth 100000 in
set_option maxHeartbeats 4000000 in
theorem ansi_ok (s : ByteArray) (bash : Bool) (p d r : Nat) (t : List UInt8) (hs : s.size ≤ 137438953472) (hp : p + 2 ≤ s.size) (h : Ans.scanL false (p + 2) (s.data.toList.drop (p + 2)) = some r) (hle : p + 2 ≤ r) (hrs : r < s.size)
    (hd : Ans.dec 0 (s.extract (p + 2) r).data.toList = .ok t) (B : Nat) (w : World) (hr : LRd w B s bash p d) :
    Calls Tryz.prog 60 #[.pointer (some ⟨B, 0, none⟩)] w (PartPost B s bash (r + 1) d w (ansiPt t)) := by
  have hBw := hr.lt
  have hb0 : Below w.heap.size w (w.alloc zeroO) := (Below.refl _ _).alloc (Nat.le_refl _) _
  have hz0 : (w.alloc zeroO).heap[w.heap.size]? = some zeroO := heap_alloc_new w zeroO
  have hr0 := hr.below hb0
  have c0 := hr0.c0; have c1 := hr0.c1
  have cS : ∀ W, Calls Tryz.prog 73 #[.string s, .int .i64 ((p + 2 : Nat) : Int)] W fun e w' => e = .returned (.tuple #[.int .i64 r, .int .i64 0]) ∧ W = w' := fun W => by
    have := Ans.scan_any s (p + 2) hp W (by unfold maxLen; omega)
    rw [h] at this
    exact this
  obtain ⟨m, hm⟩ : ∃ m : Nat, (s.extract (p + 2) r).size = m := ⟨_, rfl⟩
  have cD : ∀ W, Calls Tryz.prog 74 #[.string (s.extract (p + 2) r)] W fun e w' => e = .returned (.tuple #[encS t, .int .i64 m, .int .i64 0]) ∧ Below W.heap.size W w' := fun W => by
    have := Ans.decode_any (s.extract (p + 2) r) W (by rw [ByteArray.size_extract]; omega)
    rw [hd, hm] at this
    exact this
  clear hm
  have hp2 : ((p + 2 : Nat) : Int) = (p : Int) + 2 := by omega
  have hri : (r : Int) < (s.size : Int) := by omega
  have hri1 : (r : Int) ≤ (s.size : Int) := by omega
  have hp0 : (0 : Int) ≤ (p : Int) := by omega
  have hp02 : (0 : Int) ≤ (p : Int) + 2 := by omega
  have hr00 : (0 : Int) ≤ (r : Int) := by omega
  have hsi : (s.size : Int) ≤ 137438953472 := by omega
  have hpi : (p : Int) + 2 ≤ (r : Int) := by omega
  simp only [hp2] at cS
  obtain ⟨X, hX⟩ : ∃ X, s.extract (p + 2) r = X := ⟨_, rfl⟩
  rw [hX] at cD
  have hBw2 : B ≠ w.heap.size := by omega
  have HW : Hid (∀ w2, Below (w.alloc zeroO).heap.size (w.alloc zeroO) w2 → w2.frozen? ⟨B, 1, none⟩ = false ∧ w2.cell? ⟨B, 1, none⟩ = some (.int .i64 p) ∧ ∀ w4, Below ((w2.setCell ⟨B, 1, none⟩ (.int .i64 ((r : Int) + 1))).heap.size) (w2.setCell ⟨B, 1, none⟩ (.int .i64 ((r : Int) + 1))) w4 → w4.heap[w.heap.size]? = some zeroO ∧ KF (fun k => k = B) w w4 ∧ LRd w4 B s bash (r + 1) d) := hid fun w2 hb2 => by
    have hr2 := hr0.below hb2
    refine ⟨hr2.free 1, hr2.c1, fun w4 hb => ?_⟩
    have h3 : LRd (w2.setCell ⟨B, 1, none⟩ (.int .i64 ((r : Int) + 1))) B s bash (r + 1) d := hr2.at_ (r + 1)
    have hz3 : (w2.setCell ⟨B, 1, none⟩ (.int .i64 ((r : Int) + 1))).heap[w.heap.size]? = some zeroO := by
      rw [heap_setCell_other _ _ _ _ (by show w.heap.size ≠ B; omega)]
      exact heap_below' hz0 hb2
    have k3 : KF (fun k => k = B) w (w2.setCell ⟨B, 1, none⟩ (.int .i64 ((r : Int) + 1))) := (((KF.refl (fun k => k = B) w).alloc zeroO).trans (KF.of_below (F := fun _ => False) hb2) (fun _ h => h.elim)).set (.inl rfl) 1 _
    exact ⟨heap_below' hz3 hb, k3.trans (KF.of_below (F := fun _ => False) hb) (fun _ h => h.elim), h3.below hb⟩
  have cN := fun W => clone_any [97, 110, 115, 105] (by simp) W
  have HX := hid hX
  clear h hd hX hz0 hr0 hb0
  go_enter Tryz.func60, Tryz.ntmps60
  go_wp2_with (first
    | (go_at_call 73; (with_reducible refine (cS _).mono ?_); rintro e w1 ⟨rfl, hw⟩; subst hw)
    | (go_at_call 74; rw [HX.out]; (with_reducible refine (cD _).mono ?_); rintro e w2 ⟨rfl, hb2⟩; obtain ⟨f1, k1, hW4⟩ := HW.out w2 hb2; have HW4 := hid hW4; clear hW4)
    | (go_at_call 32; (with_reducible refine (cN _).mono ?_); rintro e w4 ⟨rfl, hb4⟩; obtain ⟨hz4, hk4, hr4⟩ := HW4.out w4 hb4; have HZ4 := hid (And.intro hz4 (And.intro hk4 hr4)); clear hz4 hk4 hr4 hb4)
    | (refine wpList_store_row rfl 34 _ _ rfl w.heap.size (cellsPt (ansiPt t)).toArray rfl rfl _ _ HZ4.out.1 part_sz rfl (cellsPt_all _) ?_))
  refine ret_part (pt := ansiPt t) rfl rfl (setRow_heap _ _ _ _ _ _ HZ4.out.1) rfl ⟨_, rfl, rfl, ?_, ?_⟩
  · exact HZ4.out.2.1.row (.inr (Nat.le_refl _)) _
  · exact LRd.row HZ4.out.2.2 hBw2 _
set_option maxRecDepth 100000 in
set_option maxHeartbeats 4000000 in
theorem ansi_err1 (s : ByteArray) (bash : Bool) (p d : Nat) (hs : s.size ≤ 137438953472) (hp : p + 2 ≤ s.size) (h : Ans.scanL false (p + 2) (s.data.toList.drop (p + 2)) = none) (B : Nat) (w : World) (hr : LRd w B s bash p d) :
    Calls Tryz.prog 60 #[.pointer (some ⟨B, 0, none⟩)] w (PartBad B w 8 s.size) := by
  have hb0 : Below w.heap.size w (w.alloc zeroO) := (Below.refl _ _).alloc (Nat.le_refl _) _
  have hr0 := hr.below hb0
  have c0 := hr0.c0; have c1 := hr0.c1
  have cS : ∀ W, Calls Tryz.prog 73 #[.string s, .int .i64 ((p + 2 : Nat) : Int)] W fun e w' => e = .returned (.tuple #[.int .i64 s.size, .int .i64 8]) ∧ W = w' := fun W => by
    have := Ans.scan_any s (p + 2) hp W (by unfold maxLen; omega)
    rw [h] at this
    exact this
  have hp2 : ((p + 2 : Nat) : Int) = (p : Int) + 2 := by omega
  have hp0 : (0 : Int) ≤ (p : Int) := by omega
  have hp02 : (0 : Int) ≤ (p : Int) + 2 := by omega
  have hsi : (s.size : Int) ≤ 137438953472 := by omega
  have hpi : (p : Int) + 2 ≤ (s.size : Int) := by omega
  simp only [hp2] at cS
  have HB0 := hid hb0
  clear h hr0 hb0
  go_enter Tryz.func60, Tryz.ntmps60
  go_wp2_with (first
    | (go_at_call 73; (with_reducible refine (cS _).mono ?_); rintro e w1 ⟨rfl, hw⟩; subst hw))
  exact ⟨rfl, rfl, KF.of_below HB0.out⟩
set_option maxRecDepth 100000 in
set_option maxHeartbeats 4000000 in
theorem ansi_err2 (s : ByteArray) (bash : Bool) (p d r pl : Nat) (e0 : Int) (hne : e0 ≠ 0) (hs : s.size ≤ 137438953472) (hp : p + 2 ≤ s.size) (h : Ans.scanL false (p + 2) (s.data.toList.drop (p + 2)) = some r) (hle : p + 2 ≤ r) (hrs : r < s.size)
    (hd : Ans.dec 0 (s.extract (p + 2) r).data.toList = .error (pl, e0)) (hpl : pl ≤ s.size) (B : Nat) (w : World) (hr : LRd w B s bash p d) :
    Calls Tryz.prog 60 #[.pointer (some ⟨B, 0, none⟩)] w (PartBad B w ⟨e0, false⟩ (p + 2 + pl)) := by
  have hb0 : Below w.heap.size w (w.alloc zeroO) := (Below.refl _ _).alloc (Nat.le_refl _) _
  have hr0 := hr.below hb0
  have c0 := hr0.c0; have c1 := hr0.c1
  have cS : ∀ W, Calls Tryz.prog 73 #[.string s, .int .i64 ((p + 2 : Nat) : Int)] W fun e w' => e = .returned (.tuple #[.int .i64 r, .int .i64 0]) ∧ W = w' := fun W => by
    have := Ans.scan_any s (p + 2) hp W (by unfold maxLen; omega)
    rw [h] at this
    exact this
  have cD : ∀ W, Calls Tryz.prog 74 #[.string (s.extract (p + 2) r)] W fun e w' => e = .returned (.tuple #[.string .empty, .int .i64 pl, .int .i64 e0]) ∧ Below W.heap.size W w' := fun W => by
    have := Ans.decode_any (s.extract (p + 2) r) W (by rw [ByteArray.size_extract]; omega)
    rw [hd] at this
    exact this
  have hneb : (e0 == 0) = false := beq_eq_false_iff_ne.2 hne
  have hpli : (pl : Int) ≤ (s.size : Int) := by omega
  have hpl0 : (0 : Int) ≤ (pl : Int) := by omega
  have hp2 : ((p + 2 : Nat) : Int) = (p : Int) + 2 := by omega
  have hri : (r : Int) < (s.size : Int) := by omega
  have hri1 : (r : Int) ≤ (s.size : Int) := by omega
  have hp0 : (0 : Int) ≤ (p : Int) := by omega
  have hp02 : (0 : Int) ≤ (p : Int) + 2 := by omega
  have hr00 : (0 : Int) ≤ (r : Int) := by omega
  have hsi : (s.size : Int) ≤ 137438953472 := by omega
  have hpi : (p : Int) + 2 ≤ (r : Int) := by omega
  simp only [hp2] at cS
  obtain ⟨X, hX⟩ : ∃ X, s.extract (p + 2) r = X := ⟨_, rfl⟩
  rw [hX] at cD
  have HB0 := hid hb0
  have HX := hid hX
  clear h hd hX hr0 hb0
  go_enter Tryz.func60, Tryz.ntmps60
  go_wp2_with (first
    | (go_at_call 73; (with_reducible refine (cS _).mono ?_); rintro e w1 ⟨rfl, hw⟩; subst hw)
    | (go_at_call 74; rw [HX.out]; (with_reducible refine (cD _).mono ?_); rintro e w2 ⟨rfl, hb2⟩))
  rw [show (p : Int) + 2 + pl = ((p + 2 + pl : Nat) : Int) by omega]
  exact ⟨rfl, rfl, KF.of_below (HB0.out.trans (hb2.mono HB0.out.size))⟩
theorem ansi_res (s : ByteArray) (bash : Bool) (p d : Nat) (hs : s.size ≤ 137438953472) (hp : p + 2 ≤ s.size) :
    (∃ p' t, p + 3 + t.length ≤ p' ∧ p' ≤ s.size ∧ ∀ B w, LRd w B s bash p d → Calls Tryz.prog 60 #[.pointer (some ⟨B, 0, none⟩)] w (PartPost B s bash p' d w (ansiPt t))) ∨
    ∃ e0 q0, e0.e ≠ 0 ∧ ∀ B w, LRd w B s bash p d → Calls Tryz.prog 60 #[.pointer (some ⟨B, 0, none⟩)] w (PartBad B w e0 q0) := by
  cases h : Ans.scanL false (p + 2) (s.data.toList.drop (p + 2)) with
  | none => exact .inr ⟨8, s.size, by decide, fun B w hr => ansi_err1 s bash p d hs hp h B w hr⟩
  | some r =>
    obtain ⟨h1, h2⟩ := scan_bounds _ _ _ _ h
    rw [List.length_drop, len_toList] at h2
    obtain ⟨h3, h4⟩ := Ans.dec_facts _ 0 (s.extract (p + 2) r).data.toList (Nat.le_refl _)
    rw [len_toList, ByteArray.size_extract] at h3 h4
    cases hd : Ans.dec 0 (s.extract (p + 2) r).data.toList with
    | ok t =>
      have := (h4 t hd).2
      exact .inl ⟨r + 1, t, by omega, by omega, fun B w hr => ansi_ok s bash p d r t hs hp h h1 (by omega) hd B w hr⟩
    | error x =>
      obtain ⟨pl, e0⟩ := x
      have := h3 _ hd
      exact .inr ⟨⟨e0, false⟩, p + 2 + pl, this.2.2.1, fun B w hr => ansi_err2 s bash p d r pl e0 this.2.2.1 hs hp h h1 (by omega) hd (by simp only at this; omega) B w hr⟩
end Go.Proofs.YtialepcdbpofkaaGreat
namespace Go.Proofs.YtialepcdbpofkaaGreat
open Go.RowKit
open Go.Lib (hid)
def Within (s : ByteArray) (bash : Bool) (p d : Nat) (wy : Int) : Prop :=
  (∃ q P, p ≤ q ∧ q < s.size ∧ ∀ (B : Nat) (W : World), LRd W B s bash p d → Calls Tryz.prog 88 #[.pointer (some ⟨B, 0, none⟩), .int .i64 wy] W (LPostS B s bash d W (.ok (q, P)))) ∨
  ∃ e0 q, e0.e ≠ 0 ∧ ∀ (B : Nat) (W : World), LRd W B s bash p d → Calls Tryz.prog 88 #[.pointer (some ⟨B, 0, none⟩), .int .i64 wy] W (LPostS B s bash d W (.error (e0, q)))
def Par : Prop := ∀ (s : ByteArray) (bash : Bool) (fr en : Nat), s.size ≤ 137438953472 → fr ≤ en → en ≤ s.size → ParsedOk s bash fr en ∨ ∃ e0 pl, e0.e ≠ 0 ∧ ParsedErr s bash fr en e0 pl
theorem end_res (s : ByteArray) (bash : Bool) (p d : Nat) (hs : s.size ≤ 137438953472) (hp : p ≤ s.size) : ∃ E, EndC s bash p d E ∧ (E = none → p + 1 ≤ s.size) ∧ ∀ e0 q, E = some (e0, q) → e0.e ≠ 0 := by
  rcases want1_res [125] s bash p d (by omega) hp with ⟨hle, hW⟩ | ⟨e0, q, he, hW⟩
  · exact ⟨none, hW, fun _ => hle, fun _ _ h => by cases h⟩
  · exact ⟨some (e0, q), hW, fun h => (by cases h), fun e q h => by cases h; exact he⟩
def FineC (s : ByteArray) (p : Nat) (nm : List UInt8) (q0 : Bool) (r : Except (Fe × Nat) (Nat × Pt)) : Prop := (∃ p' op, p < p' ∧ p' ≤ s.size ∧ r = .ok (p', brPt nm op q0)) ∨ ∃ e0 q, e0.e ≠ 0 ∧ r = .error (e0, q)
theorem fine_end {s : ByteArray} {p q : Nat} {nm op : List UInt8} {q0 : Bool} {E : Option (Fe × Nat)} (hpq : p ≤ q) (h1 : E = none → q + 1 ≤ s.size) (h2 : ∀ e0 q, E = some (e0, q) → e0.e ≠ 0) : FineC s p nm q0 (endE q (brPt nm op q0) E) := by
  rcases E with _ | ⟨e0, q2⟩
  · exact .inl ⟨q + 1, op, by omega, h1 rfl, rfl⟩
  · exact .inr ⟨e0, q2, h2 _ _ rfl, rfl⟩
theorem change_res (hPar : Par) (s : ByteArray) (bash : Bool) (p d way : Nat) (n0 : List UInt8) (q0 : Bool) (hs : s.size ≤ 137438953472) (hp : p ≤ s.size)
    (hV : ∀ p', p < p' → p' ≤ s.size → ∀ wy : Int, (wy = 1 ∨ wy = 2 ∨ wy = 4) → Within s bash p' d wy) : ∃ r, ChAt s bash p d way n0 q0 r ∧ FineC s p n0 q0 r := by
  rcases want_res (opsL bash) s bash p d (by omega) hp (by cases bash <;> decide) with ⟨x, hx, hle, hX⟩ | ⟨e0, q, he, hX⟩
  rotate_left
  · exact ⟨.error (e0, q), fun B Pb w hcs => change_bad s bash p d way n0 q0 e0 q hX B Pb w hcs, .inr ⟨e0, q, he, rfl⟩⟩
  have hmem : x ∈ opsA ++ opsB := by
    cases bash
    · exact List.mem_append_left _ hx
    · exact hx
  have hxl : x.length ≤ 100 ∧ 0 < x.length := by
    have : ∀ y ∈ opsA ++ opsB, y.length ≤ 100 ∧ 0 < y.length := by decide
    exact this x hmem
  obtain ⟨p1, hp1⟩ : ∃ p1, p + x.length = p1 := ⟨_, rfl⟩
  have hX : WantX s bash p d x p1 := by rw [← hp1]; exact hX
  have hlt : p < p1 := by omega
  have hle1 : p1 ≤ s.size := by omega
  have hcl : x = [125] ∨ (x = [94] ∨ x = [94, 94] ∨ x = [44] ∨ x = [44, 44] ∨ x = [91, 64, 93] ∨ x = [91, 42, 93]) ∨ x = [91] ∨ x = [58] ∨ (x = [47] ∨ x = [47, 47]) ∨ (x = [35] ∨ x = [35, 35] ∨ x = [37] ∨ x = [37, 37]) ∨ ((x == [125]) = false ∧ (x == [94]) = false ∧ (x == [94, 94]) = false ∧ (x == [44]) = false ∧ (x == [44, 44]) = false ∧ (x == [91, 64, 93]) = false ∧ (x == [91, 42, 93]) = false ∧ (x == [91]) = false ∧ (x == [58]) = false ∧ (x == [47]) = false ∧ (x == [47, 47]) = false ∧ (x == [35]) = false ∧ (x == [35, 35]) = false ∧ (x == [37]) = false ∧ (x == [37, 37]) = false) := by
    have : ∀ y ∈ opsA ++ opsB, y = [125] ∨ (y = [94] ∨ y = [94, 94] ∨ y = [44] ∨ y = [44, 44] ∨ y = [91, 64, 93] ∨ y = [91, 42, 93]) ∨ y = [91] ∨ y = [58] ∨ (y = [47] ∨ y = [47, 47]) ∨ (y = [35] ∨ y = [35, 35] ∨ y = [37] ∨ y = [37, 37]) ∨ ((y == [125]) = false ∧ (y == [94]) = false ∧ (y == [94, 94]) = false ∧ (y == [44]) = false ∧ (y == [44, 44]) = false ∧ (y == [91, 64, 93]) = false ∧ (y == [91, 42, 93]) = false ∧ (y == [91]) = false ∧ (y == [58]) = false ∧ (y == [47]) = false ∧ (y == [47, 47]) = false ∧ (y == [35]) = false ∧ (y == [35, 35]) = false ∧ (y == [37]) = false ∧ (y == [37, 37]) = false) := by decide
    exact this x hmem
  rcases hcl with h | h | h | h | h | h | h
  · exact ⟨.ok (p1, brPt n0 [] q0), fun B Pb w hcs => change_close s bash p d way n0 q0 x hxl.1 p1 hX (by rw [h]; decide) B Pb w hcs, .inl ⟨p1, [], hlt, hle1, rfl⟩⟩
  · obtain ⟨E, hE, h1, h2⟩ := end_res s bash p1 d hs hle1
    exact ⟨_, fun B Pb w hcs => change_plain s bash p d way n0 q0 x hxl.1 p1 hX E hE h B Pb w hcs, fine_end (by omega) h1 h2⟩
  · by_cases hi : Lib.indexByte (s.data.toList.drop p1) 93 < 0
    · exact ⟨_, fun B Pb w hcs => change_find_bad s bash p d way n0 q0 x hxl.1 p1 hX hle1 hs hi h B Pb w hcs, .inr ⟨8, s.size, by decide, rfl⟩⟩
    · obtain ⟨k, hk⟩ := Int.eq_ofNat_of_zero_le (by omega : 0 ≤ Lib.indexByte (s.data.toList.drop p1) 93)
      have hlk := indexByte_lt (s.data.toList.drop p1) 93
      rw [hk, List.length_drop, len_toList] at hlk
      have hk2 : p1 + k < s.size := by omega
      rcases hPar s bash p1 (p1 + k) hs (by omega) (by omega) with hP | ⟨e0, q, he, hP⟩
      · obtain ⟨E, hE, h1, h2⟩ := end_res s bash (p1 + k + 1) d hs (by omega)
        exact ⟨_, fun B Pb w hcs => change_sum s bash p d way n0 q0 x hxl.1 p1 hX k hk hk2 hs hP E hE h B Pb w hcs, fine_end (by omega) h1 h2⟩
      · exact ⟨_, fun B Pb w hcs => change_sum_bad s bash p d way n0 q0 x hxl.1 p1 hX k hk hk2 hs e0 q hP h B Pb w hcs, .inr ⟨e0, q, he, rfl⟩⟩
  · rcases span_res hPar s bash p1 d hs hle1 with ⟨p2, hp2, hp2s, hS⟩ | ⟨e0, q, he, hS⟩
    · obtain ⟨E, hE, h1, h2⟩ := end_res s bash p2 d hs hp2s
      exact ⟨_, fun B Pb w hcs => change_span s bash p d way n0 q0 x hxl.1 p1 hX p2 hS E hE h B Pb w hcs, fine_end (by omega) h1 h2⟩
    · exact ⟨_, fun B Pb w hcs => change_span_bad s bash p d way n0 q0 x hxl.1 p1 hX e0 q hS h B Pb w hcs, .inr ⟨e0, q, he, rfl⟩⟩
  · rcases hV p1 hlt hle1 2 (by omega) with ⟨q, P, hq1, hq2, hW⟩ | ⟨e0, q, he, hW⟩
    · by_cases h47 : s[q] = 47
      · obtain ⟨wyi, hwy⟩ : ∃ wyi : Int, (3 ≤ way ∧ wyi = 4) ∨ (way ≤ 2 ∧ wyi = 1) := by
          by_cases hw : 3 ≤ way
          · exact ⟨4, .inl ⟨hw, rfl⟩⟩
          · exact ⟨1, .inr ⟨by omega, rfl⟩⟩
        rcases hV (q + 1) (by omega) (by omega) wyi (by omega) with ⟨q2, P2, hr1, hr2, hW2⟩ | ⟨e0, q2, he, hW2⟩
        · obtain ⟨E, hE, h1, h2⟩ := end_res s bash q2 d hs (by omega)
          exact ⟨_, fun B Pb w hcs => change_pat2 s bash p d way n0 q0 x hxl.1 p1 hX q hq2 hs _ rfl P hW h47 wyi q2 P2 hW2 E hE hwy h B Pb w hcs, fine_end (by omega) h1 h2⟩
        · exact ⟨_, fun B Pb w hcs => change_pat2_bad s bash p d way n0 q0 x hxl.1 p1 hX q hq2 hs _ rfl P hW h47 wyi e0 q2 hW2 hwy h B Pb w hcs, .inr ⟨e0, q2, he, rfl⟩⟩
      · obtain ⟨E, hE, h1, h2⟩ := end_res s bash q d hs (by omega)
        exact ⟨_, fun B Pb w hcs => change_pat s bash p d way n0 q0 x hxl.1 p1 hX q hq2 hs _ rfl P hW h47 E hE h B Pb w hcs, fine_end (by omega) h1 h2⟩
    · exact ⟨_, fun B Pb w hcs => change_pat_bad s bash p d way n0 q0 x hxl.1 p1 hX e0 q hW h B Pb w hcs, .inr ⟨e0, q, he, rfl⟩⟩
  · rcases hV p1 hlt hle1 1 (by omega) with ⟨q, P, hq1, hq2, hW⟩ | ⟨e0, q, he, hW⟩
    · obtain ⟨E, hE, h1, h2⟩ := end_res s bash q d hs (by omega)
      exact ⟨_, fun B Pb w hcs => change_word s bash p d way n0 q0 x hxl.1 p1 hX 1 q P hW E hE (.inl ⟨rfl, h⟩) B Pb w hcs, fine_end (by omega) h1 h2⟩
    · exact ⟨_, fun B Pb w hcs => change_word_bad s bash p d way n0 q0 x hxl.1 p1 hX 1 e0 q hW (.inl ⟨rfl, h⟩) B Pb w hcs, .inr ⟨e0, q, he, rfl⟩⟩
  · obtain ⟨wyi, hwy⟩ : ∃ wyi : Int, (3 ≤ way ∧ wyi = 4) ∨ (way ≤ 2 ∧ wyi = 1) := by
      by_cases hw : 3 ≤ way
      · exact ⟨4, .inl ⟨hw, rfl⟩⟩
      · exact ⟨1, .inr ⟨by omega, rfl⟩⟩
    rcases hV p1 hlt hle1 wyi (by omega) with ⟨q, P, hq1, hq2, hW⟩ | ⟨e0, q, he, hW⟩
    · obtain ⟨E, hE, h1, h2⟩ := end_res s bash q d hs (by omega)
      exact ⟨_, fun B Pb w hcs => change_word s bash p d way n0 q0 x hxl.1 p1 hX wyi q P hW E hE (.inr ⟨h, hwy⟩) B Pb w hcs, fine_end (by omega) h1 h2⟩
    · exact ⟨_, fun B Pb w hcs => change_word_bad s bash p d way n0 q0 x hxl.1 p1 hX wyi e0 q hW (.inr ⟨h, hwy⟩) B Pb w hcs, .inr ⟨e0, q, he, rfl⟩⟩
theorem braces_res (hPar : Par) (s : ByteArray) (bash : Bool) (p d way : Nat) (hs : s.size ≤ 137438953472) (hp : p + 2 ≤ s.size)
    (hV : ∀ p', p < p' → p' ≤ s.size → ∀ wy : Int, (wy = 1 ∨ wy = 2 ∨ wy = 4) → Within s bash p' d wy) :
    (∃ p' nm op, p + 3 ≤ p' ∧ p' ≤ s.size ∧ ∀ B w, LRd w B s bash p d → Calls Tryz.prog 59 #[.pointer (some ⟨B, 0, none⟩), .int .i64 way] w (PartPost B s bash p' d w (brPt nm op (decide (3 ≤ way))))) ∨
    ∃ e0 q0, e0.e ≠ 0 ∧ ∀ B w, LRd w B s bash p d → Calls Tryz.prog 59 #[.pointer (some ⟨B, 0, none⟩), .int .i64 way] w (PartBad B w e0 q0) := by
  cases hcl : countedL (s.data.toList.drop (p + 2))
  · rcases name_res s.size s bash (p + 2) d hs hp (by omega) with ⟨n, hn0, hn1, hN⟩ | ⟨e0, q, he, hN⟩
    · obtain ⟨r, hC, hF⟩ := change_res hPar s bash (p + 2 + n) d way ((s.data.toList.drop (p + 2)).take n) (decide (3 ≤ way)) hs hn1 (fun p' h1 h2 wy h3 => hV p' (by omega) h2 wy h3)
      rcases hF with ⟨p2, op, h1, h2, rfl⟩ | ⟨e0, q, he, rfl⟩
      · exact .inl ⟨p2, _, op, by omega, h2, fun B w hr => braces_cok s bash p d way _ rfl hs hp hcl n _ rfl hN p2 _ hC B w hr⟩
      · exact .inr ⟨e0, q, he, fun B w hr => braces_cbad s bash p d way _ rfl hs hp hcl n _ rfl hN e0 q hC B w hr⟩
    · exact .inr ⟨e0, q, he, fun B w hr => braces_nbad s bash p d way _ rfl hs hp hcl e0 q hN B w hr⟩
  · have hp3 : p + 3 ≤ s.size := by
      by_cases h : p + 2 < s.size
      · omega
      · rw [List.drop_of_length_le (by rw [len_toList]; omega)] at hcl
        cases hcl
    rcases name_res s.size s bash (p + 3) d hs hp3 (by omega) with ⟨n, hn0, hn1, hN⟩ | ⟨e0, q, he, hN⟩
    · rcases length_res s bash (p + 3 + n) d ((s.data.toList.drop (p + 3)).take n) (by rw [List.length_take, List.length_drop, len_toList]; omega) hs hn1 with ⟨p2, op, h1, h2, hL⟩ | ⟨e0, q, he, hL⟩
      · exact .inl ⟨p2, _, op, by omega, h2, fun B w hr => braces_lok s bash p d way _ rfl hs hp hcl n _ rfl hN p2 op hL B w hr⟩
      · exact .inr ⟨e0, q, he, fun B w hr => braces_llbad s bash p d way _ rfl hs hp hcl n _ rfl hN e0 q hL B w hr⟩
    · exact .inr ⟨e0, q, he, fun B w hr => braces_lnbad s bash p d way _ rfl hs hp hcl e0 q hN B w hr⟩
end Go.Proofs.YtialepcdbpofkaaGreat
namespace Go.Proofs.YtialepcdbpofkaaGreat
open Go.RowKit
open Go.Lib (hid)
set_option maxRecDepth 100000 in
set_option maxHeartbeats 4000000 in
theorem dollar_sum_sh (way : Nat) (s : ByteArray) (bash : Bool) (p d : Nat) (hs : s.size ≤ 137438953472) (hp : p < s.size) (h1 : Lib.hasPrefix (s.data.toList.drop (p + 1)) [40, 40] = true) (p' : Nat) (b : Bg) (pt0 : Pt) (hS : ∀ B w, LRd w B s bash p d → Calls Tryz.prog 58 #[.pointer (some ⟨B, 0, none⟩), .bool (decide (3 ≤ way))] w (PartPost B s bash p' d w pt0)) (hb1 : b.ps.length + 2 ≤ 549755813888) (hb2 : b.tx.length + pt0.text.length ≤ 140737488355328) : SubSh 47 way s bash d p p' b (addB b [pt0]) := by
  intro N G B F bag w hbb hB hr hbag
  have cS := fun n => hS B (w.drewN n) hr
  obtain ⟨hl1, hl2, -, -⟩ := shB_len hbb
  rw [← hl1] at hb1
  rw [← hl2] at hb2
  have c0 := hr.c0; have c1 := hr.c1; have c2 := hr.c2
  have hpi : (p : Int) + 1 ≤ (s.size : Int) := by omega
  have hp0 : (0 : Int) ≤ (p : Int) := by omega
  have hp01 : (0 : Int) ≤ (p : Int) + 1 := by omega
  have hsi : (s.size : Int) ≤ 137438953472 := by omega
  have hwr : IntKind.i64.wrap ((p : Int) + 1) = (p : Int) + 1 := wrap_small (by omega) (by omega)
  have cP := fun q W => Tryz.strings_HasPrefix (s.extract (p + 1) s.size) q W
  rw [ext_from] at cP
  obtain ⟨R, hR⟩ : ∃ R, s.extract (p + 1) s.size = R := ⟨_, rfl⟩
  rw [hR] at cP
  have cP1 : ∀ W, Calls Tryz.prog 56 #[.string R, .string ⟨#[40, 40]⟩] W fun e w' => e = .returned (.bool true) ∧ w' = W := fun W => by have := cP ⟨#[40, 40]⟩ W; rw [show (⟨#[40, 40]⟩ : ByteArray).data.toList = [40, 40] from rfl, h1] at this; exact this
  obtain ⟨q, hq⟩ : ∃ q, decide (3 ≤ way) = q := ⟨_, rfl⟩
  have hqi : decide ((3 : Int) ≤ (way : Int)) = q := by rw [← hq]; simp; omega
  rw [hq] at cS
  have HT := hid (fun (n' : Nat) (W : World) (hk : KF (fun k => k = B) (w.drewN n') W) (hr1 : LRd W B s bash p' d) => sub_done (W := W) hB hbag hk.undrewN hr1)
  clear h1 hq hbag hr cP hS hl1 hl2
  go_enter Tryz.func47, Tryz.ntmps47
  go_wp2_with fail
  go_quiet (fail)
  all_goals
    go_wp2_with (first
      | (go_at_call 56; (with_reducible refine (cP1 _).mono ?_); rintro e w1 ⟨rfl, hw⟩; have hw := hw.symm; subst hw)
      | (go_at_call 58; (with_reducible refine (cS _).mono ?_); rintro e w2 ⟨⟨kd, tx, nm6, op6, q6, wd6, mo6, su6, li6, pl6⟩, hpt, he, hk2, hr2⟩; have he2 : e = .returned (aggPt kd tx nm6 op6 q6 wd6 mo6 su6 li6 pl6) := he; clear he; subst he2; obtain ⟨hbg2, HT2⟩ := HT.out _ w2 hk2 hr2; have HPT := hid hpt; clear hpt)
      | (go_at_call 50; refine (add_one N G F bag ⟨kd, tx, nm6, op6, q6, wd6, mo6, su6, li6, pl6⟩ w2 hbg2 hb1 (by show bag.tx.length + tx.length ≤ _; rw [show tx = pt0.text from congrArg Pt.text HPT.out]; exact hb2)).mono ?_; rintro e w3 ⟨rfl, hto⟩))
    all_goals
      go_end0
      exact ⟨rfl, addB bag [⟨kd, tx, nm6, op6, q6, wd6, mo6, su6, li6, pl6⟩], by rw [shB_add, hbb]; show addB b [shP _] = _; rw [HPT.out], HT2 _ _ hto⟩
set_option maxRecDepth 100000 in
set_option maxHeartbeats 4000000 in
theorem dollar_sum_bad (way : Nat) (s : ByteArray) (bash : Bool) (p d : Nat) (hs : s.size ≤ 137438953472) (hp : p < s.size) (h1 : Lib.hasPrefix (s.data.toList.drop (p + 1)) [40, 40] = true) (b : Bg) (e0 : Fe) (q0 : Nat) (hS : ∀ B w, LRd w B s bash p d → Calls Tryz.prog 58 #[.pointer (some ⟨B, 0, none⟩), .bool (decide (3 ≤ way))] w (PartBad B w e0 q0)) : SubErr 47 way s bash d p b e0 q0 := by
  intro N G B F w hB hr hbag
  have cS := fun n => hS B (w.drewN n) hr
  have c0 := hr.c0; have c1 := hr.c1; have c2 := hr.c2
  have hpi : (p : Int) + 1 ≤ (s.size : Int) := by omega
  have hp0 : (0 : Int) ≤ (p : Int) := by omega
  have hp01 : (0 : Int) ≤ (p : Int) + 1 := by omega
  have hsi : (s.size : Int) ≤ 137438953472 := by omega
  have hwr : IntKind.i64.wrap ((p : Int) + 1) = (p : Int) + 1 := wrap_small (by omega) (by omega)
  have cP := fun q W => Tryz.strings_HasPrefix (s.extract (p + 1) s.size) q W
  rw [ext_from] at cP
  obtain ⟨R, hR⟩ : ∃ R, s.extract (p + 1) s.size = R := ⟨_, rfl⟩
  rw [hR] at cP
  have cP1 : ∀ W, Calls Tryz.prog 56 #[.string R, .string ⟨#[40, 40]⟩] W fun e w' => e = .returned (.bool true) ∧ w' = W := fun W => by have := cP ⟨#[40, 40]⟩ W; rw [show (⟨#[40, 40]⟩ : ByteArray).data.toList = [40, 40] from rfl, h1] at this; exact this
  obtain ⟨q, hq⟩ : ∃ q, decide (3 ≤ way) = q := ⟨_, rfl⟩
  have hqi : decide ((3 : Int) ≤ (way : Int)) = q := by rw [← hq]; simp; omega
  rw [hq] at cS
  clear h1 hq hbag hr cP hS
  go_enter Tryz.func47, Tryz.ntmps47
  go_wp2_with fail
  go_quiet (fail)
  all_goals
    go_wp2_with (first
      | (go_at_call 56; (with_reducible refine (cP1 _).mono ?_); rintro e w1 ⟨rfl, hw⟩; have hw := hw.symm; subst hw)
      | (go_at_call 58; (with_reducible refine (cS _).mono ?_); rintro e w2 ⟨rfl, hk2⟩))
    all_goals
      exact ⟨rfl, rfl, hk2.undrewN.mono (fun _ _ h => .inr h)⟩
set_option maxRecDepth 100000 in
set_option maxHeartbeats 4000000 in
theorem dollar_braces_sh (way : Nat) (s : ByteArray) (bash : Bool) (p d : Nat) (hs : s.size ≤ 137438953472) (hp : p < s.size) (h1 : Lib.hasPrefix (s.data.toList.drop (p + 1)) [40, 40] = false) (h2 : Lib.hasPrefix (s.data.toList.drop (p + 1)) [40] = false) (h3 : Lib.hasPrefix (s.data.toList.drop (p + 1)) [123] = true) (p' : Nat) (b : Bg) (pt0 : Pt) (hS : ∀ B w, LRd w B s bash p d → Calls Tryz.prog 59 #[.pointer (some ⟨B, 0, none⟩), .int .i64 way] w (PartPost B s bash p' d w pt0)) (hb1 : b.ps.length + 2 ≤ 549755813888) (hb2 : b.tx.length + pt0.text.length ≤ 140737488355328) : SubSh 47 way s bash d p p' b (addB b [pt0]) := by
  intro N G B F bag w hbb hB hr hbag
  have cS := fun n => hS B (w.drewN n) hr
  obtain ⟨hl1, hl2, -, -⟩ := shB_len hbb
  rw [← hl1] at hb1
  rw [← hl2] at hb2
  have c0 := hr.c0; have c1 := hr.c1; have c2 := hr.c2
  have hpi : (p : Int) + 1 ≤ (s.size : Int) := by omega
  have hp0 : (0 : Int) ≤ (p : Int) := by omega
  have hp01 : (0 : Int) ≤ (p : Int) + 1 := by omega
  have hsi : (s.size : Int) ≤ 137438953472 := by omega
  have hwr : IntKind.i64.wrap ((p : Int) + 1) = (p : Int) + 1 := wrap_small (by omega) (by omega)
  have cP := fun q W => Tryz.strings_HasPrefix (s.extract (p + 1) s.size) q W
  rw [ext_from] at cP
  obtain ⟨R, hR⟩ : ∃ R, s.extract (p + 1) s.size = R := ⟨_, rfl⟩
  rw [hR] at cP
  have cP1 : ∀ W, Calls Tryz.prog 56 #[.string R, .string ⟨#[40, 40]⟩] W fun e w' => e = .returned (.bool false) ∧ w' = W := fun W => by have := cP ⟨#[40, 40]⟩ W; rw [show (⟨#[40, 40]⟩ : ByteArray).data.toList = [40, 40] from rfl, h1] at this; exact this
  have cP2 : ∀ W, Calls Tryz.prog 56 #[.string R, .string ⟨#[40]⟩] W fun e w' => e = .returned (.bool false) ∧ w' = W := fun W => by have := cP ⟨#[40]⟩ W; rw [show (⟨#[40]⟩ : ByteArray).data.toList = [40] from rfl, h2] at this; exact this
  have cP3 : ∀ W, Calls Tryz.prog 56 #[.string R, .string ⟨#[123]⟩] W fun e w' => e = .returned (.bool true) ∧ w' = W := fun W => by have := cP ⟨#[123]⟩ W; rw [show (⟨#[123]⟩ : ByteArray).data.toList = [123] from rfl, h3] at this; exact this
  obtain ⟨q, hq⟩ : ∃ q, decide (3 ≤ way) = q := ⟨_, rfl⟩
  have hqi : decide ((3 : Int) ≤ (way : Int)) = q := by rw [← hq]; simp; omega
  have HT := hid (fun (n' : Nat) (W : World) (hk : KF (fun k => k = B) (w.drewN n') W) (hr1 : LRd W B s bash p' d) => sub_done (W := W) hB hbag hk.undrewN hr1)
  clear h1 h2 h3 hq hbag hr cP hS hl1 hl2
  go_enter Tryz.func47, Tryz.ntmps47
  go_wp2_with fail
  go_quiet (fail)
  all_goals
    go_wp2_with (first
      | (go_at_call 56; (with_reducible refine (cP1 _).mono ?_); rintro e w1 ⟨rfl, hw⟩; have hw := hw.symm; subst hw)
      | (go_at_call 56; (with_reducible refine (cP2 _).mono ?_); rintro e w1 ⟨rfl, hw⟩; have hw := hw.symm; subst hw)
      | (go_at_call 56; (with_reducible refine (cP3 _).mono ?_); rintro e w1 ⟨rfl, hw⟩; have hw := hw.symm; subst hw)
      | (go_at_call 59; (with_reducible refine (cS _).mono ?_); rintro e w2 ⟨⟨kd, tx, nm6, op6, q6, wd6, mo6, su6, li6, pl6⟩, hpt, he, hk2, hr2⟩; have he2 : e = .returned (aggPt kd tx nm6 op6 q6 wd6 mo6 su6 li6 pl6) := he; clear he; subst he2; obtain ⟨hbg2, HT2⟩ := HT.out _ w2 hk2 hr2; have HPT := hid hpt; clear hpt)
      | (go_at_call 50; refine (add_one N G F bag ⟨kd, tx, nm6, op6, q6, wd6, mo6, su6, li6, pl6⟩ w2 hbg2 hb1 (by show bag.tx.length + tx.length ≤ _; rw [show tx = pt0.text from congrArg Pt.text HPT.out]; exact hb2)).mono ?_; rintro e w3 ⟨rfl, hto⟩))
    all_goals
      go_end0
      exact ⟨rfl, addB bag [⟨kd, tx, nm6, op6, q6, wd6, mo6, su6, li6, pl6⟩], by rw [shB_add, hbb]; show addB b [shP _] = _; rw [HPT.out], HT2 _ _ hto⟩
set_option maxRecDepth 100000 in
set_option maxHeartbeats 4000000 in
theorem dollar_braces_bad (way : Nat) (s : ByteArray) (bash : Bool) (p d : Nat) (hs : s.size ≤ 137438953472) (hp : p < s.size) (h1 : Lib.hasPrefix (s.data.toList.drop (p + 1)) [40, 40] = false) (h2 : Lib.hasPrefix (s.data.toList.drop (p + 1)) [40] = false) (h3 : Lib.hasPrefix (s.data.toList.drop (p + 1)) [123] = true) (b : Bg) (e0 : Fe) (q0 : Nat) (hS : ∀ B w, LRd w B s bash p d → Calls Tryz.prog 59 #[.pointer (some ⟨B, 0, none⟩), .int .i64 way] w (PartBad B w e0 q0)) : SubErr 47 way s bash d p b e0 q0 := by
  intro N G B F w hB hr hbag
  have cS := fun n => hS B (w.drewN n) hr
  have c0 := hr.c0; have c1 := hr.c1; have c2 := hr.c2
  have hpi : (p : Int) + 1 ≤ (s.size : Int) := by omega
  have hp0 : (0 : Int) ≤ (p : Int) := by omega
  have hp01 : (0 : Int) ≤ (p : Int) + 1 := by omega
  have hsi : (s.size : Int) ≤ 137438953472 := by omega
  have hwr : IntKind.i64.wrap ((p : Int) + 1) = (p : Int) + 1 := wrap_small (by omega) (by omega)
  have cP := fun q W => Tryz.strings_HasPrefix (s.extract (p + 1) s.size) q W
  rw [ext_from] at cP
  obtain ⟨R, hR⟩ : ∃ R, s.extract (p + 1) s.size = R := ⟨_, rfl⟩
  rw [hR] at cP
  have cP1 : ∀ W, Calls Tryz.prog 56 #[.string R, .string ⟨#[40, 40]⟩] W fun e w' => e = .returned (.bool false) ∧ w' = W := fun W => by have := cP ⟨#[40, 40]⟩ W; rw [show (⟨#[40, 40]⟩ : ByteArray).data.toList = [40, 40] from rfl, h1] at this; exact this
  have cP2 : ∀ W, Calls Tryz.prog 56 #[.string R, .string ⟨#[40]⟩] W fun e w' => e = .returned (.bool false) ∧ w' = W := fun W => by have := cP ⟨#[40]⟩ W; rw [show (⟨#[40]⟩ : ByteArray).data.toList = [40] from rfl, h2] at this; exact this
  have cP3 : ∀ W, Calls Tryz.prog 56 #[.string R, .string ⟨#[123]⟩] W fun e w' => e = .returned (.bool true) ∧ w' = W := fun W => by have := cP ⟨#[123]⟩ W; rw [show (⟨#[123]⟩ : ByteArray).data.toList = [123] from rfl, h3] at this; exact this
  obtain ⟨q, hq⟩ : ∃ q, decide (3 ≤ way) = q := ⟨_, rfl⟩
  have hqi : decide ((3 : Int) ≤ (way : Int)) = q := by rw [← hq]; simp; omega
  clear h1 h2 h3 hq hbag hr cP hS
  go_enter Tryz.func47, Tryz.ntmps47
  go_wp2_with fail
  go_quiet (fail)
  all_goals
    go_wp2_with (first
      | (go_at_call 56; (with_reducible refine (cP1 _).mono ?_); rintro e w1 ⟨rfl, hw⟩; have hw := hw.symm; subst hw)
      | (go_at_call 56; (with_reducible refine (cP2 _).mono ?_); rintro e w1 ⟨rfl, hw⟩; have hw := hw.symm; subst hw)
      | (go_at_call 56; (with_reducible refine (cP3 _).mono ?_); rintro e w1 ⟨rfl, hw⟩; have hw := hw.symm; subst hw)
      | (go_at_call 59; (with_reducible refine (cS _).mono ?_); rintro e w2 ⟨rfl, hk2⟩))
    all_goals
      exact ⟨rfl, rfl, hk2.undrewN.mono (fun _ _ h => .inr h)⟩
set_option maxRecDepth 100000 in
set_option maxHeartbeats 4000000 in
theorem dollar_ansi_sh (way : Nat) (s : ByteArray) (bash : Bool) (p d : Nat) (hs : s.size ≤ 137438953472) (hp : p < s.size) (h1 : Lib.hasPrefix (s.data.toList.drop (p + 1)) [40, 40] = false) (h2 : Lib.hasPrefix (s.data.toList.drop (p + 1)) [40] = false) (h3 : Lib.hasPrefix (s.data.toList.drop (p + 1)) [123] = false) (h4 : Lib.hasPrefix (s.data.toList.drop (p + 1)) [39] = true) (hbash : bash = true) (hway : way ≤ 2) (p' : Nat) (b : Bg) (pt0 : Pt) (hS : ∀ B w, LRd w B s bash p d → Calls Tryz.prog 60 #[.pointer (some ⟨B, 0, none⟩)] w (PartPost B s bash p' d w pt0)) (hb1 : b.ps.length + 2 ≤ 549755813888) (hb2 : b.tx.length + pt0.text.length ≤ 140737488355328) : SubSh 47 way s bash d p p' b (addB b [pt0]) := by
  intro N G B F bag w hbb hB hr hbag
  have cS := fun n => hS B (w.drewN n) hr
  obtain ⟨hl1, hl2, -, -⟩ := shB_len hbb
  rw [← hl1] at hb1
  rw [← hl2] at hb2
  have c0 := hr.c0; have c1 := hr.c1; have c2 := hr.c2
  have hpi : (p : Int) + 1 ≤ (s.size : Int) := by omega
  have hp0 : (0 : Int) ≤ (p : Int) := by omega
  have hp01 : (0 : Int) ≤ (p : Int) + 1 := by omega
  have hsi : (s.size : Int) ≤ 137438953472 := by omega
  have hwr : IntKind.i64.wrap ((p : Int) + 1) = (p : Int) + 1 := wrap_small (by omega) (by omega)
  have cP := fun q W => Tryz.strings_HasPrefix (s.extract (p + 1) s.size) q W
  rw [ext_from] at cP
  obtain ⟨R, hR⟩ : ∃ R, s.extract (p + 1) s.size = R := ⟨_, rfl⟩
  rw [hR] at cP
  have cP1 : ∀ W, Calls Tryz.prog 56 #[.string R, .string ⟨#[40, 40]⟩] W fun e w' => e = .returned (.bool false) ∧ w' = W := fun W => by have := cP ⟨#[40, 40]⟩ W; rw [show (⟨#[40, 40]⟩ : ByteArray).data.toList = [40, 40] from rfl, h1] at this; exact this
  have cP2 : ∀ W, Calls Tryz.prog 56 #[.string R, .string ⟨#[40]⟩] W fun e w' => e = .returned (.bool false) ∧ w' = W := fun W => by have := cP ⟨#[40]⟩ W; rw [show (⟨#[40]⟩ : ByteArray).data.toList = [40] from rfl, h2] at this; exact this
  have cP3 : ∀ W, Calls Tryz.prog 56 #[.string R, .string ⟨#[123]⟩] W fun e w' => e = .returned (.bool false) ∧ w' = W := fun W => by have := cP ⟨#[123]⟩ W; rw [show (⟨#[123]⟩ : ByteArray).data.toList = [123] from rfl, h3] at this; exact this
  have cP4 : ∀ W, Calls Tryz.prog 56 #[.string R, .string ⟨#[39]⟩] W fun e w' => e = .returned (.bool true) ∧ w' = W := fun W => by have := cP ⟨#[39]⟩ W; rw [show (⟨#[39]⟩ : ByteArray).data.toList = [39] from rfl, h4] at this; exact this
  subst hbash
  have hqi : decide ((3 : Int) ≤ (way : Int)) = false := decide_eq_false (by omega)
  have HT := hid (fun (n' : Nat) (W : World) (hk : KF (fun k => k = B) (w.drewN n') W) (hr1 : LRd W B s true p' d) => sub_done (W := W) hB hbag hk.undrewN hr1)
  clear h1 h2 h3 h4 hbag hr cP hS hl1 hl2
  go_enter Tryz.func47, Tryz.ntmps47
  go_wp2_with fail
  go_quiet (fail)
  all_goals
    go_wp2_with (first
      | (go_at_call 56; (with_reducible refine (cP1 _).mono ?_); rintro e w1 ⟨rfl, hw⟩; have hw := hw.symm; subst hw)
      | (go_at_call 56; (with_reducible refine (cP2 _).mono ?_); rintro e w1 ⟨rfl, hw⟩; have hw := hw.symm; subst hw)
      | (go_at_call 56; (with_reducible refine (cP3 _).mono ?_); rintro e w1 ⟨rfl, hw⟩; have hw := hw.symm; subst hw)
      | (go_at_call 56; (with_reducible refine (cP4 _).mono ?_); rintro e w1 ⟨rfl, hw⟩; have hw := hw.symm; subst hw)
      | (go_at_call 60; (with_reducible refine (cS _).mono ?_); rintro e w2 ⟨⟨kd, tx, nm6, op6, q6, wd6, mo6, su6, li6, pl6⟩, hpt, he, hk2, hr2⟩; have he2 : e = .returned (aggPt kd tx nm6 op6 q6 wd6 mo6 su6 li6 pl6) := he; clear he; subst he2; obtain ⟨hbg2, HT2⟩ := HT.out _ w2 hk2 hr2; have HPT := hid hpt; clear hpt)
      | (go_at_call 50; refine (add_one N G F bag ⟨kd, tx, nm6, op6, q6, wd6, mo6, su6, li6, pl6⟩ w2 hbg2 hb1 (by show bag.tx.length + tx.length ≤ _; rw [show tx = pt0.text from congrArg Pt.text HPT.out]; exact hb2)).mono ?_; rintro e w3 ⟨rfl, hto⟩))
    all_goals
      go_end0
      exact ⟨rfl, addB bag [⟨kd, tx, nm6, op6, q6, wd6, mo6, su6, li6, pl6⟩], by rw [shB_add, hbb]; show addB b [shP _] = _; rw [HPT.out], HT2 _ _ hto⟩
set_option maxRecDepth 100000 in
set_option maxHeartbeats 4000000 in
theorem dollar_ansi_bad (way : Nat) (s : ByteArray) (bash : Bool) (p d : Nat) (hs : s.size ≤ 137438953472) (hp : p < s.size) (h1 : Lib.hasPrefix (s.data.toList.drop (p + 1)) [40, 40] = false) (h2 : Lib.hasPrefix (s.data.toList.drop (p + 1)) [40] = false) (h3 : Lib.hasPrefix (s.data.toList.drop (p + 1)) [123] = false) (h4 : Lib.hasPrefix (s.data.toList.drop (p + 1)) [39] = true) (hbash : bash = true) (hway : way ≤ 2) (b : Bg) (e0 : Fe) (q0 : Nat) (hS : ∀ B w, LRd w B s bash p d → Calls Tryz.prog 60 #[.pointer (some ⟨B, 0, none⟩)] w (PartBad B w e0 q0)) : SubErr 47 way s bash d p b e0 q0 := by
  intro N G B F w hB hr hbag
  have cS := fun n => hS B (w.drewN n) hr
  have c0 := hr.c0; have c1 := hr.c1; have c2 := hr.c2
  have hpi : (p : Int) + 1 ≤ (s.size : Int) := by omega
  have hp0 : (0 : Int) ≤ (p : Int) := by omega
  have hp01 : (0 : Int) ≤ (p : Int) + 1 := by omega
  have hsi : (s.size : Int) ≤ 137438953472 := by omega
  have hwr : IntKind.i64.wrap ((p : Int) + 1) = (p : Int) + 1 := wrap_small (by omega) (by omega)
  have cP := fun q W => Tryz.strings_HasPrefix (s.extract (p + 1) s.size) q W
  rw [ext_from] at cP
  obtain ⟨R, hR⟩ : ∃ R, s.extract (p + 1) s.size = R := ⟨_, rfl⟩
  rw [hR] at cP
  have cP1 : ∀ W, Calls Tryz.prog 56 #[.string R, .string ⟨#[40, 40]⟩] W fun e w' => e = .returned (.bool false) ∧ w' = W := fun W => by have := cP ⟨#[40, 40]⟩ W; rw [show (⟨#[40, 40]⟩ : ByteArray).data.toList = [40, 40] from rfl, h1] at this; exact this
  have cP2 : ∀ W, Calls Tryz.prog 56 #[.string R, .string ⟨#[40]⟩] W fun e w' => e = .returned (.bool false) ∧ w' = W := fun W => by have := cP ⟨#[40]⟩ W; rw [show (⟨#[40]⟩ : ByteArray).data.toList = [40] from rfl, h2] at this; exact this
  have cP3 : ∀ W, Calls Tryz.prog 56 #[.string R, .string ⟨#[123]⟩] W fun e w' => e = .returned (.bool false) ∧ w' = W := fun W => by have := cP ⟨#[123]⟩ W; rw [show (⟨#[123]⟩ : ByteArray).data.toList = [123] from rfl, h3] at this; exact this
  have cP4 : ∀ W, Calls Tryz.prog 56 #[.string R, .string ⟨#[39]⟩] W fun e w' => e = .returned (.bool true) ∧ w' = W := fun W => by have := cP ⟨#[39]⟩ W; rw [show (⟨#[39]⟩ : ByteArray).data.toList = [39] from rfl, h4] at this; exact this
  subst hbash
  have hqi : decide ((3 : Int) ≤ (way : Int)) = false := decide_eq_false (by omega)
  clear h1 h2 h3 h4 hbag hr cP hS
  go_enter Tryz.func47, Tryz.ntmps47
  go_wp2_with fail
  go_quiet (fail)
  all_goals
    go_wp2_with (first
      | (go_at_call 56; (with_reducible refine (cP1 _).mono ?_); rintro e w1 ⟨rfl, hw⟩; have hw := hw.symm; subst hw)
      | (go_at_call 56; (with_reducible refine (cP2 _).mono ?_); rintro e w1 ⟨rfl, hw⟩; have hw := hw.symm; subst hw)
      | (go_at_call 56; (with_reducible refine (cP3 _).mono ?_); rintro e w1 ⟨rfl, hw⟩; have hw := hw.symm; subst hw)
      | (go_at_call 56; (with_reducible refine (cP4 _).mono ?_); rintro e w1 ⟨rfl, hw⟩; have hw := hw.symm; subst hw)
      | (go_at_call 60; (with_reducible refine (cS _).mono ?_); rintro e w2 ⟨rfl, hk2⟩))
    all_goals
      exact ⟨rfl, rfl, hk2.undrewN.mono (fun _ _ h => .inr h)⟩
end Go.Proofs.YtialepcdbpofkaaGreat
namespace Go.Proofs.YtialepcdbpofkaaGreat
open Go.RowKit
open Go.Lib (hid)
set_option maxRecDepth 100000 in
set_option maxHeartbeats 4000000 in
theorem part_double_sh (way : Nat) (hway : way ≤ 2) (s : ByteArray) (bash : Bool) (p d n q : Nat) (b bq : Bg) (hs : s.size ≤ 281474976710656) (hp : p < s.size) (hc : s[p] = 34) (hrun : RunS 3 s bash d n (p + 1) Bg.new (.ok (q, bq))) (hq : q ≤ 281474976710656)
    (hwt : wtB b + wtB bq + 3 ≤ 549755813888) : StepSh way s bash d p (q + 1) b (addB b (quotedL (closeB bq).ps)) := by
  intro N G B F bag w hbb hB hr hbag
  have hw3 : (way : Int) < 3 := by omega
  have hw4 : ((way : Int) == 4) = false := by simp; omega
  have hpi : (p : Int) < (s.size : Int) := by omega
  have hp0 : (0 : Int) ≤ (p : Int) := by omega
  have hsi : (s.size : Int) ≤ 281474976710656 := by omega
  have c0 := hr.c0; have c1 := hr.c1
  have f1 := hr.free 1
  have hge : ∀ k, F k → N ≤ k ∧ k < w.heap.size := hbag.ge
  have hwq := (wtB_close bq).1
  have hwQ := wt_quoted (closeB bq).ps
  have hwb : wtB bag = wtB b := by rw [← hbb, wtB_sh]
  have cQ : ∀ n', Calls Tryz.prog 34 #[.pointer (some ⟨B, 0, none⟩), .int .i64 3] ((w.drewN n').setCell ⟨B, 1, none⟩ (.int .i64 ((p : Int) + 1))) (LPostS B s bash d ((w.drewN n').setCell ⟨B, 1, none⟩ (.int .i64 ((p : Int) + 1))) (.ok (q, fun l => l.map shP = quotedL (closeB bq).ps))) := fun n' =>
    quotes_runS 3 (by omega) s hs bash d n (p + 1) _ hrun (fun q' b' h => by cases h; have := (wtB_len bq).1; omega) B _ (by
      have := hr.at_ (p + 1)
      rw [show ((p + 1 : Nat) : Int) = (p : Int) + 1 by omega] at this
      exact this)
  generalize quotedL (closeB bq).ps = Q at *
  have hqi : (0 : Int) ≤ (q : Int) := by omega
  have HT : ∀ (l : List Pt), l.map shP = Q → ∀ W n' (A : Option Addr) (c : Nat), Kept B ((w.drewN n').setCell ⟨B, 1, none⟩ (.int .i64 ((p : Int) + 1))) W → LRd W B s bash q d → W.ownsRow ((w.drewN n').setCell ⟨B, 1, none⟩ (.int .i64 ((p : Int) + 1))).heap.size 34 10 (.slice A l.length c) l.length (rowPt l) →
      Calls Tryz.prog 50 #[.pointer (some ⟨G, 0, none⟩), .slice A l.length c] W fun e w' => e = .returned (.tuple #[]) ∧ LRd w' B s bash q d ∧ PTo N G B F s bash (q + 1) d (addB bag l) w (w'.setCell ⟨B, 1, none⟩ (.int .i64 ((q : Int) + 1))) := fun l hlQ W n' A c hk hr1 ho => by
    have hk1 : KF (fun k => k = B) w W := (((KF.refl (fun k => k = B) w).drewN n').set (.inl rfl) _ _).trans (KF.of_kept hk) (fun g hg => .inl hg)
    have hszw : ((w.drewN n').setCell ⟨B, 1, none⟩ (.int .i64 ((p : Int) + 1))).heap.size = w.heap.size := by show (w.setCell ⟨B, 1, none⟩ (.int .i64 ((p : Int) + 1))).heap.size = _; simp [World.setCell]
    rw [hszw] at ho
    have hb1 : BagAt N G F bag W := hbag.kept hk1 (fun k hk => by have := (hge k hk).1; omega)
    have hwl : wtP l = wtP Q := by rw [← hlQ, wtP_sh]
    have hll := wtP_len l
    refine (add_any N G F bag A c l W hb1 (own_src ho rfl) (fun g o e => ?_) (by omega) (fun k hk => ?_)).mono ?_
    · subst e
      have hg := (ho.lt g rfl).1
      obtain ⟨cur, hcur⟩ := own_type (g := g) ho rfl
      exact ⟨fun hf => by have := (hge g hf).2; omega, lt_of_block hcur⟩
    · have h1 := wtB_add (l.take k) bag
      have h2 := wtP_take l k
      have h3 := wtB_len (addB bag (l.take k))
      have h4 := wtP_mem (List.getElem_mem hk)
      omega
    · rintro e w' ⟨rfl, hto⟩
      obtain ⟨hr3, hp3⟩ := hto.step (p := q) (p' := q + 1) (w := W) hr1 hB (fun k hk => (hge k hk).1)
      refine ⟨rfl, hr3, ?_⟩
      rw [show (((q + 1 : Nat)) : Int) = (q : Int) + 1 by omega] at hp3
      obtain ⟨h1, h2, F1, h3, h4⟩ := hp3
      refine ⟨(hk1.mono (G := fun k => F k ∨ k = B) (fun g _ hg => .inr hg)).trans h1 (fun g hg => .inl hg), h2, F1, fun g hg => ?_, h4⟩
      rcases h3 g hg with h | h
      · exact .inl h
      · exact .inr (Nat.le_trans hk1.size h)
  have HT := hid HT
  have HBB := hid hbb
  clear hrun hwt hbag hr hge hwq hwQ hwb hbb
  go_enter Tryz.func37, Tryz.ntmps37
  go_wp2_with fail
  go_quiet (fail)
  all_goals
    go_wp2_with (first
      | (go_at_call 34; (with_reducible refine (cQ _).mono ?_); rintro e w1 ⟨hk1, hr1, vp, l, hl, rfl, ho⟩; obtain ⟨ap, cp, rfl, -⟩ := own_form ho; have cA := HT.out l hl w1 _ ap cp hk1 hr1 ho; have HL := hid hl; clear hl)
      | (go_at_call 50; (with_reducible refine cA.mono ?_); rintro e w2 ⟨rfl, hr2, hpt⟩; have k1 := hr2.c1; have kf := hr2.free 1))
    go_end0
    exact ⟨rfl, _, by rw [shB_add, HBB.out, HL.out], hpt⟩
set_option maxRecDepth 100000 in
set_option maxHeartbeats 4000000 in
theorem part_double_bad (way : Nat) (hway : way ≤ 2) (s : ByteArray) (bash : Bool) (p d n : Nat) (b : Bg) (e0 : Fe) (q : Nat) (hs : s.size ≤ 281474976710656) (hp : p < s.size) (hc : s[p] = 34) (hrun : RunS 3 s bash d n (p + 1) Bg.new (.error (e0, q))) : StepErr way s bash d p b e0 q := by
  intro N G B F w hB hr hbag
  have hw3 : (way : Int) < 3 := by omega
  have hw4 : ((way : Int) == 4) = false := by simp; omega
  have hpi : (p : Int) < (s.size : Int) := by omega
  have hp0 : (0 : Int) ≤ (p : Int) := by omega
  have hsi : (s.size : Int) ≤ 281474976710656 := by omega
  have c0 := hr.c0; have c1 := hr.c1
  have f1 := hr.free 1
  have cQ : ∀ n', Calls Tryz.prog 34 #[.pointer (some ⟨B, 0, none⟩), .int .i64 3] ((w.drewN n').setCell ⟨B, 1, none⟩ (.int .i64 ((p : Int) + 1))) (LPostS B s bash d ((w.drewN n').setCell ⟨B, 1, none⟩ (.int .i64 ((p : Int) + 1))) (.error (e0, q))) := fun n' =>
    quotes_runS 3 (by omega) s hs bash d n (p + 1) _ hrun (fun q' b' h => by cases h) B _ (by
      have := hr.at_ (p + 1)
      rw [show ((p + 1 : Nat) : Int) = (p : Int) + 1 by omega] at this
      exact this)
  clear hrun hbag hr
  go_enter Tryz.func37, Tryz.ntmps37
  go_wp2_with fail
  go_quiet (fail)
  all_goals
    go_wp2_with (go_at_call 34; (with_reducible refine (cQ _).mono ?_); rintro e w1 ⟨hk1, rfl⟩)
    exact ⟨rfl, rfl, (((KF.refl (fun k => F k ∨ k = B) w).drewN _).set (.inl (.inr rfl)) _ _).trans (KF.of_kept hk1) (fun g hg => .inl (.inr hg))⟩
set_option maxRecDepth 100000 in
set_option maxHeartbeats 4000000 in
theorem part_single_bad (way : Nat) (hway : way ≤ 2) (s : ByteArray) (bash : Bool) (p d : Nat) (b : Bg) (hp : p < s.size) (hs : s.size ≤ 281474976710656) (hc : s[p] = 39) (hi : Lib.indexByte (s.data.toList.drop (p + 1)) 39 < 0) : StepErr way s bash d p b 8 s.size := by
  intro N G B F w hB hr hbag
  have hw3 : (way : Int) < 3 := by omega
  have hwr : IntKind.i64.wrap ((p : Int) + 1) = (p : Int) + 1 := wrap_small (by omega) (by omega)
  have hpi : (p : Int) < (s.size : Int) := by omega
  have hp0 : (0 : Int) ≤ (p : Int) := by omega
  have hsi : (s.size : Int) ≤ 281474976710656 := by omega
  have hp1 : ((p + 1 : Nat) : Int) = (p : Int) + 1 := by omega
  have cF : ∀ n, Calls Tryz.prog 48 #[.pointer (some ⟨B, 0, none⟩), .int .i64 ((p : Int) + 1), .int .u8 39] (w.drewN n) fun e w' => e = .panicked [faultL 8 s.size] ∧ Below (w.drewN n).heap.size (w.drewN n) w' := fun n => by
    have := find_any (p + 1) 39 B s bash p d (w.drewN n) hr (by omega) (by omega)
    rw [show (((39 : UInt8).toNat : Nat) : Int) = 39 from rfl, hp1] at this
    refine this.mono fun e w' h => ?_
    rw [if_neg (by omega)] at h
    exact h
  have c0 := hr.c0; have c1 := hr.c1
  clear hi hbag hr
  go_enter Tryz.func37, Tryz.ntmps37
  go_wp2_with fail
  go_quiet (fail)
  all_goals
    go_wp2_with (go_at_call 48; (with_reducible refine (cF _).mono ?_); rintro e w1 ⟨rfl, hb1⟩)
    exact ⟨rfl, rfl, KF.undrewN (KF.of_below hb1)⟩
set_option maxRecDepth 100000 in
set_option maxHeartbeats 4000000 in
theorem esc_bad (way : Nat) (s : ByteArray) (bash : Bool) (p d : Nat) (b : Bg) (hs : s.size ≤ 281474976710656) (hp : p + 1 = s.size) : SubErr 46 way s bash d p b 8 s.size := by
  intro N G B F w hB hr hbag
  have c0 := hr.c0; have c1 := hr.c1
  have hpe : ((p : Int) + 1 == (s.size : Int)) = true := by simp; omega
  have hp0 : (0 : Int) ≤ (p : Int) := by omega
  have hsi : (s.size : Int) ≤ 281474976710656 := by omega
  have hwr : IntKind.i64.wrap ((p : Int) + 1) = (p : Int) + 1 := wrap_small (by omega) (by omega)
  have cS := fun n => short_any B s bash p d (w.drewN n) hr
  clear hbag hr hp
  go_enter Tryz.func46, Tryz.ntmps46
  go_wp2_with fail
  go_quiet (fail)
  all_goals
    go_wp2_with (go_at_call 42; (with_reducible refine (cS _).mono ?_); rintro e w1 ⟨rfl, hb1⟩)
    exact ⟨rfl, rfl, KF.undrewN (KF.of_below hb1)⟩
end Go.Proofs.YtialepcdbpofkaaGreat
