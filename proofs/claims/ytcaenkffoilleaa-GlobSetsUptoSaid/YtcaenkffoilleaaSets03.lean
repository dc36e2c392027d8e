/- The walk of GlobSets: a set of some octets matches each of them, its opposite all others. Conditions: a text of at most 2^20 octets. -/
import Derived.Test.YtcaenkffoilleaaGlobL
import Derived.Deep.AppendLies
namespace Go.Proofs.Ytcaenkffoilleaa
open Go.RowKit
open Go.Lib (hid)

theorem findL_quoted : ∀ (k : Nat) (l : List UInt8), findL endsB k (plainL true l ++ [(93, false)]) = k + l.length
  | _, [] => rfl
  | k, c :: l => by
    show (if endsB (c, true) then k else findL endsB (k + 1) (plainL true l ++ [(93, false)])) = _
    rw [if_neg (by simp [endsB, quo]), findL_quoted (k + 1) l]
    simp
    omega
theorem setSp_quoted : ∀ (l : List UInt8), setSp (plainL true l) = l.map fun c => (c, c)
  | [] => rfl
  | [_] => rfl
  | [_, _] => rfl
  | a :: b :: c :: l => by
    have h := setSp_quoted (b :: c :: l)
    show (if spansB (b, true) then _ else ((a, true).1, (a, true).1) :: setSp (plainL true (b :: c :: l))) = _
    rw [if_neg (by simp [spansB, quo]), h]
    rfl
def setA (l : List UInt8) : List Ch := (91, false) :: (plainL true l ++ [(93, false)])
def setB (l : List UInt8) : List Ch := (91, false) :: (33, false) :: (plainL true l ++ [(93, false)])
theorem runsOf_setA (c : UInt8) (l : List UInt8) : runsOf (setA (c :: l)) = [[⟨false, false, (c :: l).map fun c => (c, c)⟩]] := by
  have hf : firstP (setA (c :: l)) = 1 := rfl
  have hn : findN endsB (setA (c :: l)) 2 = l.length + 2 := by
    unfold findN
    rw [if_pos (by simp [setA, plainL])]
    show findL endsB 2 (plainL true l ++ [(93, false)]) = _
    rw [findL_quoted]; omega
  have hl : (setA (c :: l)).length = l.length + 3 := by simp [setA, plainL]
  have hw : widthL (setA (c :: l)) = l.length + 3 := by unfold widthL; rw [hf, hn, hl, if_neg (by omega)]
  have hp : partsL true (setA (c :: l)) = [⟨false, false, (c :: l).map fun c => (c, c)⟩] := by
    have h := partsL_set (c := (91, false)) (r := plainL true (c :: l) ++ [(93, false)]) rfl (by show widthL (setA (c :: l)) ≠ 0; rw [hw]; omega)
    rw [show ((91, false) :: (plainL true (c :: l) ++ [(93, false)]) : List Ch) = setA (c :: l) from rfl, hw] at h
    rw [h, show (setA (c :: l)).drop (l.length + 3) = [] from List.drop_of_length_le (by omega), partsL_nil]
    have e : ((setA (c :: l)).drop 1).take (l.length + 3 - 2) = plainL true (c :: l) := by
      show (plainL true (c :: l) ++ [(93, false)]).take (l.length + 3 - 2) = _
      rw [show l.length + 3 - 2 = (plainL true (c :: l)).length by simp [plainL], List.take_left]
    rw [e]
    show [Pt.mk false (othersB (c, true)) (setSp (if othersB (c, true) then _ else plainL true (c :: l)))] = _
    rw [show othersB (c, true) = false from rfl, if_neg (by simp), setSp_quoted]
  unfold runsOf
  rw [hp]
  exact runsL_plain _ (by simp)
theorem runsOf_setB (c : UInt8) (l : List UInt8) : runsOf (setB (c :: l)) = [[⟨false, true, (c :: l).map fun c => (c, c)⟩]] := by
  have hf : firstP (setB (c :: l)) = 2 := rfl
  have hn : findN endsB (setB (c :: l)) 3 = l.length + 3 := by
    unfold findN
    rw [if_pos (by simp [setB, plainL])]
    show findL endsB 3 (plainL true l ++ [(93, false)]) = _
    rw [findL_quoted]; omega
  have hl : (setB (c :: l)).length = l.length + 4 := by simp [setB, plainL]
  have hw : widthL (setB (c :: l)) = l.length + 4 := by unfold widthL; rw [hf, hn, hl, if_neg (by omega)]
  have hp : partsL true (setB (c :: l)) = [⟨false, true, (c :: l).map fun c => (c, c)⟩] := by
    have h := partsL_set (c := (91, false)) (r := (33, false) :: (plainL true (c :: l) ++ [(93, false)])) rfl (by show widthL (setB (c :: l)) ≠ 0; rw [hw]; omega)
    rw [show ((91, false) :: (33, false) :: (plainL true (c :: l) ++ [(93, false)]) : List Ch) = setB (c :: l) from rfl, hw] at h
    rw [h, show (setB (c :: l)).drop (l.length + 4) = [] from List.drop_of_length_le (by omega), partsL_nil]
    have e : ((setB (c :: l)).drop 1).take (l.length + 4 - 2) = (33, false) :: plainL true (c :: l) := by
      show ((33, false) :: (plainL true (c :: l) ++ [(93, false)])).take (l.length + 4 - 2) = _
      rw [show l.length + 4 - 2 = (plainL true (c :: l)).length + 1 by simp [plainL], List.take_succ_cons, List.take_left]
    rw [e]
    show [Pt.mk false true (setSp (plainL true (c :: l)))] = _
    rw [setSp_quoted]
  unfold runsOf
  rw [hp]
  exact runsL_plain _ (by simp)
theorem any_has (l : List UInt8) (d : UInt8) : ((l.map fun c => (c, c)).any fun s => Sp.has s d) = l.contains d := by
  rw [Bool.eq_iff_iff]
  simp only [List.any_eq_true, List.mem_map, List.contains_iff_mem]
  constructor
  · rintro ⟨s, ⟨c, hc, rfl⟩, hs⟩
    simp only [Sp.has, Bool.and_eq_true, decide_eq_true_eq] at hs
    have : c = d := UInt8.le_antisymm hs.1 hs.2
    rw [← this]; exact hc
  · intro h
    exact ⟨(d, d), ⟨d, h, rfl⟩, by simp [Sp.has]⟩
theorem match_one (q : Pt) (d : UInt8) : matchL [[q]] [d] = q.takes d := by
  rw [Bool.eq_iff_iff, matchL_wl]
  show fx [q] [d] = true ↔ _
  simp [fx]
theorem match_setA (c : UInt8) (l : List UInt8) (d : UInt8) : matchL (runsOf (setA (c :: l))) [d] = (c :: l).contains d := by
  rw [runsOf_setA, match_one]
  unfold Pt.takes
  rw [any_has]
  simp
theorem match_setB (c : UInt8) (l : List UInt8) (d : UInt8) : matchL (runsOf (setB (c :: l))) [d] = !(c :: l).contains d := by
  rw [runsOf_setB, match_one]
  unfold Pt.takes
  rw [any_has]
  simp

theorem conv_one (c : UInt8) (W : World) : (convert 32 9 (.slice (some ⟨W.heap.size, 0, none⟩) 1 1)).run Try.prog (W.alloc (.cells #[.int .u8 c.toNat] 5)) = .ok (.string ⟨#[c]⟩) (W.alloc (.cells #[.int .u8 c.toNat] 5)) := by
  refine run_convert_bytes_back (P := Try.prog) _ 32 9 5 ⟨W.heap.size, 0, none⟩ 1 [c] Try.underlying32 Try.underlying5 Try.underlying9 (fun j hj => ?_)
  obtain rfl : j = 0 := by simp at hj; exact hj
  exact cell_of_one (heap_alloc_new W _)

theorem apart_step {N na nb g' : Nat} {va vb : Value} {xa xb : List Value} {w W w3 : World} {tmp : Obj} (hN : N ≤ W.heap.size) (ha : W.ownsRow N 29 2 va na xa) (hb : W.ownsRow N 29 2 vb nb xb) (ne : va.ownBlock ≠ vb.ownBlock)
    (hg : (W.alloc tmp).grownBy w3 va.ownBlock) (hat : va.ownBlock = some g' ∨ g' = (W.alloc tmp).heap.size) : w3.ownsRow N 29 2 vb nb xb ∧ some g' ≠ vb.ownBlock ∧ (Below N w W → Below N w w3) ∧ N ≤ w3.heap.size := by
  refine ⟨(hb.alloc tmp).kept hg (.inr (Ne.symm ne)), ?_, fun h => (h.alloc hN tmp).grown hg (by simp; omega) (fun j hj => (ha.lt j hj).1), Nat.le_trans (by simp; omega) hg.size⟩
  rcases hat with h | h
  · rw [← h]; exact ne
  · intro e
    have := (hb.lt g' e.symm).2
    simp at h
    omega
theorem base_alloc {N : Nat} {W : World} (h : N ≤ W.heap.size) (o : Obj) : N ≤ (W.alloc o).heap.size := by simp; omega
theorem chA_snoc (l : List UInt8) (d : UInt8) : chCells ((91, false) :: plainL true l) ++ [.int .u8 d.toNat, .bool true] = chCells ((91, false) :: plainL true (l ++ [d])) := by simp [chCells, plainL]
theorem chB_snoc (l : List UInt8) (d : UInt8) : chCells ((91, false) :: (33, false) :: plainL true l) ++ [.int .u8 d.toNat, .bool true] = chCells ((91, false) :: (33, false) :: plainL true (l ++ [d])) := by simp [chCells, plainL]
theorem chA_end (l : List UInt8) : chCells ((91, false) :: plainL true l) ++ [.int .u8 93, .bool false] = chCells (setA l) := by simp [chCells, setA, plainL]
theorem chB_end (l : List UInt8) : chCells ((91, false) :: (33, false) :: plainL true l) ++ [.int .u8 93, .bool false] = chCells (setB l) := by simp [chCells, setB, plainL]
theorem contains_snoc (l : List UInt8) (d c : UInt8) : (l ++ [d]).contains c = (l.contains c || d == c) := by
  rw [Bool.eq_iff_iff]
  simp only [Bool.or_eq_true, List.contains_iff_mem, List.mem_append, List.mem_singleton, beq_iff_eq]
  constructor
  · rintro (h | h)
    · exact .inl h
    · exact .inr h.symm
  · rintro (h | h)
    · exact .inl h
    · exact .inr h.symm
theorem setA_own {W : World} {N n : Nat} {v : Value} {l : List UInt8} (h : W.ownsRow N 29 2 v n (chCells ((91, false) :: plainL true l) ++ [.int .u8 93, .bool false])) : W.ownsRow N 29 2 v n (chCells (setA l)) := by rw [← chA_end]; exact h
theorem setB_own {W : World} {N n : Nat} {v : Value} {l : List UInt8} (h : W.ownsRow N 29 2 v n (chCells ((91, false) :: (33, false) :: plainL true l) ++ [.int .u8 93, .bool false])) : W.ownsRow N 29 2 v n (chCells (setB l)) := by rw [← chB_end]; exact h
theorem setA_len (l : List UInt8) : (setA l).length = l.length + 1 + 1 := by simp [setA, plainL]
theorem setB_len (l : List UInt8) : (setB l).length = l.length + 2 + 1 := by simp [setB, plainL]

set_option maxHeartbeats 2000000 in
theorem sets_walk (s : ByteArray) (c : UInt8) (w : World) (hs : s.size ≤ 1048576) :
    Calls Try.prog 6 #[.string s, .int .u8 c.toNat] w fun e w' => e = .returned (.bool true) ∧ Below w.heap.size w w' := by
  obtain ⟨i0, hi, hz0, hz1, hz2⟩ := info_parts info_char
  have hcv := conv_one c
  go_enter Try.func6, Try.ntmps6
  go_wp2_with (first
    | (go_at_call 11; (with_reducible refine (alive_any _).mono ?_); rintro e w1 ⟨rfl, hb1⟩; have hn1 := hb1.size)
    | (at_builtin; refine wpList_append_lies _ rfl _ _ 23 rfl w.heap.size 29 i0 _ 2 2 Try.underlying23 hi hz0 hz1 hz2 rfl (by decide) (.slice none 0 0) (0) ([]) rfl (World.ownsRow_nil _ _ _ _) ⟨w1.heap.size, 0, none⟩ 1 1 [.int .u8 91, .bool false] rfl rfl (World.news_of_block (cs := #[.int .u8 91, .bool false]) (t := 29) (fr := (0, 0)) (heap_alloc_new w1 _)) (by simp [Value.oneCell']) (by omega) (by unfold maxLen; omega) (by omega) (base_alloc hn1 _) _ rfl ?_; intro ga ca w2 hoa hga hata hlta; have hn2 := Nat.le_trans (base_alloc hn1 _) hga.size)
    | (at_builtin; refine wpList_append_lies _ rfl _ _ 23 rfl w.heap.size 29 i0 _ 2 2 Try.underlying23 hi hz0 hz1 hz2 rfl (by decide) (.slice none 0 0) (0) ([]) rfl (World.ownsRow_nil _ _ _ _) ⟨w2.heap.size, 0, none⟩ 2 2 [.int .u8 91, .bool false, .int .u8 33, .bool false] rfl rfl (World.news_of_block (cs := #[.int .u8 91, .bool false, .int .u8 33, .bool false]) (t := 29) (fr := (0, 0)) (heap_alloc_new w2 _)) (by simp [Value.oneCell']) (by omega) (by unfold maxLen; omega) (by omega) (base_alloc hn2 _) _ rfl ?_; intro gb cb w3 hob hgb hatb hltb))
  have hB2 : Below w.heap.size w w2 := (hb1.alloc hn1 _).grown hga (base_alloc hn1 _) (fun j hj => by cases hj)
  have hB3 : Below w.heap.size w w3 := (hB2.alloc hn2 _).grown hgb (base_alloc hn2 _) (fun j hj => by cases hj)
  have hoa3 := (hoa.alloc _).kept hgb (.inr (by simp [Value.ownBlock]))
  have hne0 : ga ≠ gb := by
    rcases hatb with h | h
    · cases h
    · intro e
      rw [← e] at h
      simp at h
      omega
  clear hoa hga hata hlta hgb hatb hltb hb1 hB2 hn1 hn2
  have hs3 := hB3.size
  go_loopw [5, 6, 7, 8] (fun va vb vi v8 wr => ∃ (k ga gb ca cb : Nat), k ≤ s.size ∧ va = .slice (some ⟨ga, 0, none⟩) (k + 1) ca ∧ vb = .slice (some ⟨gb, 0, none⟩) (k + 2) cb ∧ vi = .bool ((s.data.toList.take k).contains c) ∧ v8 = .int .i64 k ∧ Below w.heap.size w wr ∧
    wr.ownsRow w.heap.size 29 2 va (k + 1) (chCells ((91, false) :: plainL true (s.data.toList.take k))) ∧ wr.ownsRow w.heap.size 29 2 vb (k + 2) (chCells ((91, false) :: (33, false) :: plainL true (s.data.toList.take k))) ∧ ga ≠ gb) (fun _ _ _ v8 _ => s.size - (intOf v8).toNat)
  case atStart => exact ⟨0, ga, gb, ca, cb, Nat.zero_le _, rfl, rfl, by simp, rfl, hB3, hoa3, hob, hne0⟩
  case round =>
    clear hoa3 hob hne0 hB3 hs3
    obtain ⟨k, ga, gb, ca, cb, hk, rfl, rfl, rfl, rfl, hB, hoa, hob, hne⟩ := hrel
    have hN := hB.size
    by_cases hlt : k < s.size
    · have hne' : (Value.slice (some ⟨ga, 0, none⟩) (k + 1) ca).ownBlock ≠ (Value.slice (some ⟨gb, 0, none⟩) (k + 2) cb).ownBlock := by simpa [Value.ownBlock] using hne
      have HC : Hid ((s.data.toList.take (k + 1)).contains c = ((s.data.toList.take k).contains c || s[k] == c)) := hid (by rw [take_snoc s k hlt, contains_snoc])
      have HA : Hid (chCells ((91, false) :: plainL true (s.data.toList.take k)) ++ [.int .u8 s[k].toNat, .bool true] = chCells ((91, false) :: plainL true (s.data.toList.take (k + 1)))) := hid (by rw [take_snoc s k hlt, chA_snoc])
      have HBb : Hid (chCells ((91, false) :: (33, false) :: plainL true (s.data.toList.take k)) ++ [.int .u8 s[k].toNat, .bool true] = chCells ((91, false) :: (33, false) :: plainL true (s.data.toList.take (k + 1)))) := hid (by rw [take_snoc s k hlt, chB_snoc])
      obtain ⟨fl, hfl⟩ : ∃ fl, (s.data.toList.take k).contains c = fl := ⟨_, rfl⟩
      rw [hfl] at HC ⊢
      clear hfl
      cases fl
      · by_cases hcc : s[k] = c
        · have g1 : ((s[k].toNat : Int) == (c.toNat : Int)) = true := by rw [hcc]; simp
          have HQ := hid hcc
          clear hcc
          go_wp2_with (first
            | (at_builtin; refine wpList_append_lies _ rfl _ _ 23 rfl w.heap.size 29 i0 _ 2 2 Try.underlying23 hi hz0 hz1 hz2 rfl (by decide) (.slice (some ⟨ga, 0, none⟩) (k + 1) ca) (k + 1) (chCells ((91, false) :: plainL true (s.data.toList.take k))) rfl (hoa.alloc _) ⟨wr.heap.size, 0, none⟩ 1 1 [.int .u8 s[k].toNat, .bool true] rfl rfl (World.news_of_block (cs := #[.int .u8 s[k].toNat, .bool true]) (t := 29) (fr := (0, 0)) (heap_alloc_new wr _)) (by simp [Value.oneCell']) (by omega) (by unfold maxLen; omega) (by omega) (base_alloc hN _) _ rfl ?_; intro ga' ca' w4 hoa4 hga4 hata4 hlta4; obtain ⟨hob4, hne4, hB4, hN4⟩ := apart_step (w := w) hN hoa hob hne' hga4 hata4)
            | (at_builtin; refine wpList_append_lies _ rfl _ _ 23 rfl w.heap.size 29 i0 _ 2 2 Try.underlying23 hi hz0 hz1 hz2 rfl (by decide) (.slice (some ⟨gb, 0, none⟩) (k + 2) cb) (k + 2) (chCells ((91, false) :: (33, false) :: plainL true (s.data.toList.take k))) rfl (hob4.alloc _) ⟨w4.heap.size, 0, none⟩ 1 1 [.int .u8 s[k].toNat, .bool true] rfl rfl (World.news_of_block (cs := #[.int .u8 s[k].toNat, .bool true]) (t := 29) (fr := (0, 0)) (heap_alloc_new w4 _)) (by simp [Value.oneCell']) (by omega) (by unfold maxLen; omega) (by omega) (base_alloc hN4 _) _ rfl ?_; intro gb' cb' w5 hob5 hgb5 hatb5 hltb5; obtain ⟨hoa5, hne5, hB5, hN5⟩ := apart_step (w := w) hN4 hob4 hoa4 (Ne.symm hne4) hgb5 hatb5))
          rw [HA.out] at hoa5
          rw [HBb.out] at hob5
          have HO := hid hoa5
          have HP := hid hob5
          have HBB := hid (hB5 (hB4 hB))
          have hneF : ga' ≠ gb' := fun e => hne5 (by rw [e]; rfl)
          clear hoa hob hoa4 hob4 hob5 hoa5 hga4 hgb5 hata4 hatb5 hne4 hne5 hB4 hB5 hB hne' hlta4 hltb5
          go_roundw
          case rel => exact ⟨k + 1, ga', gb', ca', cb', by omega, rfl, rfl, by rw [HC.out]; rw [show (s[k] == c) = true by simp [HQ.out]]; rfl, by go_num, HBB.out, HO.out, HP.out, hneF⟩
          case measure => simp [intOf]; omega
        · have g1 : ((s[k].toNat : Int) == (c.toNat : Int)) = false := by
            have : s[k].toNat ≠ c.toNat := fun e => hcc (UInt8.toNat_inj.1 e)
            simp; omega
          have HQ := hid hcc
          clear hcc
          go_wp2_with (first
            | (at_builtin; refine wpList_append_lies _ rfl _ _ 23 rfl w.heap.size 29 i0 _ 2 2 Try.underlying23 hi hz0 hz1 hz2 rfl (by decide) (.slice (some ⟨ga, 0, none⟩) (k + 1) ca) (k + 1) (chCells ((91, false) :: plainL true (s.data.toList.take k))) rfl (hoa.alloc _) ⟨wr.heap.size, 0, none⟩ 1 1 [.int .u8 s[k].toNat, .bool true] rfl rfl (World.news_of_block (cs := #[.int .u8 s[k].toNat, .bool true]) (t := 29) (fr := (0, 0)) (heap_alloc_new wr _)) (by simp [Value.oneCell']) (by omega) (by unfold maxLen; omega) (by omega) (base_alloc hN _) _ rfl ?_; intro ga' ca' w4 hoa4 hga4 hata4 hlta4; obtain ⟨hob4, hne4, hB4, hN4⟩ := apart_step (w := w) hN hoa hob hne' hga4 hata4)
            | (at_builtin; refine wpList_append_lies _ rfl _ _ 23 rfl w.heap.size 29 i0 _ 2 2 Try.underlying23 hi hz0 hz1 hz2 rfl (by decide) (.slice (some ⟨gb, 0, none⟩) (k + 2) cb) (k + 2) (chCells ((91, false) :: (33, false) :: plainL true (s.data.toList.take k))) rfl (hob4.alloc _) ⟨w4.heap.size, 0, none⟩ 1 1 [.int .u8 s[k].toNat, .bool true] rfl rfl (World.news_of_block (cs := #[.int .u8 s[k].toNat, .bool true]) (t := 29) (fr := (0, 0)) (heap_alloc_new w4 _)) (by simp [Value.oneCell']) (by omega) (by unfold maxLen; omega) (by omega) (base_alloc hN4 _) _ rfl ?_; intro gb' cb' w5 hob5 hgb5 hatb5 hltb5; obtain ⟨hoa5, hne5, hB5, hN5⟩ := apart_step (w := w) hN4 hob4 hoa4 (Ne.symm hne4) hgb5 hatb5))
          rw [HA.out] at hoa5
          rw [HBb.out] at hob5
          have HO := hid hoa5
          have HP := hid hob5
          have HBB := hid (hB5 (hB4 hB))
          have hneF : ga' ≠ gb' := fun e => hne5 (by rw [e]; rfl)
          clear hoa hob hoa4 hob4 hob5 hoa5 hga4 hgb5 hata4 hatb5 hne4 hne5 hB4 hB5 hB hne' hlta4 hltb5
          go_roundw
          case rel => exact ⟨k + 1, ga', gb', ca', cb', by omega, rfl, rfl, by rw [HC.out]; rw [show (s[k] == c) = false by simp [HQ.out]]; rfl, by go_num, HBB.out, HO.out, HP.out, hneF⟩
          case measure => simp [intOf]; omega
      · go_wp2_with (first
          | (at_builtin; refine wpList_append_lies _ rfl _ _ 23 rfl w.heap.size 29 i0 _ 2 2 Try.underlying23 hi hz0 hz1 hz2 rfl (by decide) (.slice (some ⟨ga, 0, none⟩) (k + 1) ca) (k + 1) (chCells ((91, false) :: plainL true (s.data.toList.take k))) rfl (hoa.alloc _) ⟨wr.heap.size, 0, none⟩ 1 1 [.int .u8 s[k].toNat, .bool true] rfl rfl (World.news_of_block (cs := #[.int .u8 s[k].toNat, .bool true]) (t := 29) (fr := (0, 0)) (heap_alloc_new wr _)) (by simp [Value.oneCell']) (by omega) (by unfold maxLen; omega) (by omega) (base_alloc hN _) _ rfl ?_; intro ga' ca' w4 hoa4 hga4 hata4 hlta4; obtain ⟨hob4, hne4, hB4, hN4⟩ := apart_step (w := w) hN hoa hob hne' hga4 hata4)
          | (at_builtin; refine wpList_append_lies _ rfl _ _ 23 rfl w.heap.size 29 i0 _ 2 2 Try.underlying23 hi hz0 hz1 hz2 rfl (by decide) (.slice (some ⟨gb, 0, none⟩) (k + 2) cb) (k + 2) (chCells ((91, false) :: (33, false) :: plainL true (s.data.toList.take k))) rfl (hob4.alloc _) ⟨w4.heap.size, 0, none⟩ 1 1 [.int .u8 s[k].toNat, .bool true] rfl rfl (World.news_of_block (cs := #[.int .u8 s[k].toNat, .bool true]) (t := 29) (fr := (0, 0)) (heap_alloc_new w4 _)) (by simp [Value.oneCell']) (by omega) (by unfold maxLen; omega) (by omega) (base_alloc hN4 _) _ rfl ?_; intro gb' cb' w5 hob5 hgb5 hatb5 hltb5; obtain ⟨hoa5, hne5, hB5, hN5⟩ := apart_step (w := w) hN4 hob4 hoa4 (Ne.symm hne4) hgb5 hatb5))
        rw [HA.out] at hoa5
        rw [HBb.out] at hob5
        have HO := hid hoa5
        have HP := hid hob5
        have HBB := hid (hB5 (hB4 hB))
        have hneF : ga' ≠ gb' := fun e => hne5 (by rw [e]; rfl)
        clear hoa hob hoa4 hob4 hob5 hoa5 hga4 hgb5 hata4 hatb5 hne4 hne5 hB4 hB5 hB hne' hlta4 hltb5
        go_roundw
        case rel => exact ⟨k + 1, ga', gb', ca', cb', by omega, rfl, rfl, by rw [HC.out]; simp, by go_num, HBB.out, HO.out, HP.out, hneF⟩
        case measure => simp [intOf]; omega
    · obtain rfl : k = s.size := by omega
      rw [List.take_of_length_le (by rw [len_toList]; exact Nat.le_refl _)] at hoa hob ⊢
      have hne' : (Value.slice (some ⟨ga, 0, none⟩) (s.size + 1) ca).ownBlock ≠ (Value.slice (some ⟨gb, 0, none⟩) (s.size + 2) cb).ownBlock := by simpa [Value.ownBlock] using hne
      cases hsl : s.data.toList with
      | nil =>
        have g0 : (s.toList == []) = true := by rw [toList_data, hsl]; rfl
        rw [← hsl]
        clear hsl
        go_wp2_with (first | (at_builtin; refine wpList_append_lies _ rfl _ _ 23 rfl w.heap.size 29 i0 _ 2 2 Try.underlying23 hi hz0 hz1 hz2 rfl (by decide) (.slice (some ⟨ga, 0, none⟩) (s.size + 1) ca) (s.size + 1) (chCells ((91, false) :: plainL true s.data.toList)) rfl (hoa.alloc _) ⟨wr.heap.size, 0, none⟩ 1 1 [.int .u8 93, .bool false] rfl rfl (World.news_of_block (cs := #[.int .u8 93, .bool false]) (t := 29) (fr := (0, 0)) (heap_alloc_new wr _)) (by simp [Value.oneCell']) (by omega) (by unfold maxLen; omega) (by omega) (base_alloc hN _) _ rfl ?_; intro ga' ca' w4 hoa4 hga4 hata4 hlta4; obtain ⟨hob4, hne4, hB4, hN4⟩ := apart_step (w := w) hN hoa hob hne' hga4 hata4) | (at_builtin; refine wpList_append_lies _ rfl _ _ 23 rfl w.heap.size 29 i0 _ 2 2 Try.underlying23 hi hz0 hz1 hz2 rfl (by decide) (.slice (some ⟨gb, 0, none⟩) (s.size + 2) cb) (s.size + 2) (chCells ((91, false) :: (33, false) :: plainL true s.data.toList)) rfl (hob4.alloc _) ⟨w4.heap.size, 0, none⟩ 1 1 [.int .u8 93, .bool false] rfl rfl (World.news_of_block (cs := #[.int .u8 93, .bool false]) (t := 29) (fr := (0, 0)) (heap_alloc_new w4 _)) (by simp [Value.oneCell']) (by omega) (by unfold maxLen; omega) (by omega) (base_alloc hN4 _) _ rfl ?_; intro gb' cb' w5 hob5 hgb5 hatb5 hltb5; obtain ⟨hoa5, hne5, hB5, hN5⟩ := apart_step (w := w) hN4 hob4 hoa4 (Ne.symm hne4) hgb5 hatb5; have hBx := hB5 (hB4 hB); have hoaX := hoa5.alloc (.cells #[.int .u8 c.toNat] 5); have hobX := hob5.alloc (.cells #[.int .u8 c.toNat] 5); have hBX := hBx.alloc hN5 (.cells #[.int .u8 c.toNat] 5)))
        go_ret
        exact ⟨rfl, hBX⟩
      | cons c0 l0 =>
        have g0 : (s.toList == []) = false := by rw [toList_data, hsl]; rfl
        have hmA := match_setA c0 l0 c
        have hmB := match_setB c0 l0 c
        rw [← hsl] at hmA hmB ⊢
        clear hsl
        have cA := fun (W : World) (g cap : Nat) (ho : W.ownsRow w.heap.size 29 2 (.slice (some ⟨g, 0, none⟩) (s.size + 1 + 1) cap) (s.size + 1 + 1) (chCells (setA s.data.toList))) (hcap : s.size + 1 + 1 ≤ cap) =>
          match_any (some ⟨g, 0, none⟩) cap (setA s.data.toList) ⟨#[c]⟩ W (by rw [setA_len, len_toList]; omega) (by rw [setA_len, len_toList]; exact hcap) (by show 1 ≤ _; omega) (fun a e => by cases e; exact (ho.lt _ rfl).2) (CharsAt.of_own ho)
        have cB := fun (W : World) (g cap : Nat) (ho : W.ownsRow w.heap.size 29 2 (.slice (some ⟨g, 0, none⟩) (s.size + 2 + 1) cap) (s.size + 2 + 1) (chCells (setB s.data.toList))) (hcap : s.size + 2 + 1 ≤ cap) =>
          match_any (some ⟨g, 0, none⟩) cap (setB s.data.toList) ⟨#[c]⟩ W (by rw [setB_len, len_toList]; omega) (by rw [setB_len, len_toList]; exact hcap) (by show 1 ≤ _; omega) (fun a e => by cases e; exact (ho.lt _ rfl).2) (CharsAt.of_own ho)
        rw [setA_len, len_toList] at cA
        rw [setB_len, len_toList] at cB
        rw [show (⟨#[c]⟩ : ByteArray).data.toList = [c] from rfl] at cA cB
        rw [hmA] at cA
        rw [hmB] at cB
        clear hmA hmB
        generalize (s.data.toList).contains c = fl at *
        have hcapA : ∀ (W : World) (g n cap : Nat) (xs : List Value), W.ownsRow w.heap.size 29 2 (.slice (some ⟨g, 0, none⟩) n cap) n xs → n ≤ cap := fun W g n cap xs h => by
          rcases h.2 with ⟨h0, _⟩ | ⟨g', cap', cur, h', _, _, hc, _⟩
          · cases h0
          · cases h'; exact hc
        cases fl
        · go_wp2_with (first | (at_builtin; refine wpList_append_lies _ rfl _ _ 23 rfl w.heap.size 29 i0 _ 2 2 Try.underlying23 hi hz0 hz1 hz2 rfl (by decide) (.slice (some ⟨ga, 0, none⟩) (s.size + 1) ca) (s.size + 1) (chCells ((91, false) :: plainL true s.data.toList)) rfl (hoa.alloc _) ⟨wr.heap.size, 0, none⟩ 1 1 [.int .u8 93, .bool false] rfl rfl (World.news_of_block (cs := #[.int .u8 93, .bool false]) (t := 29) (fr := (0, 0)) (heap_alloc_new wr _)) (by simp [Value.oneCell']) (by omega) (by unfold maxLen; omega) (by omega) (base_alloc hN _) _ rfl ?_; intro ga' ca' w4 hoa4 hga4 hata4 hlta4; obtain ⟨hob4, hne4, hB4, hN4⟩ := apart_step (w := w) hN hoa hob hne' hga4 hata4) | (at_builtin; refine wpList_append_lies _ rfl _ _ 23 rfl w.heap.size 29 i0 _ 2 2 Try.underlying23 hi hz0 hz1 hz2 rfl (by decide) (.slice (some ⟨gb, 0, none⟩) (s.size + 2) cb) (s.size + 2) (chCells ((91, false) :: (33, false) :: plainL true s.data.toList)) rfl (hob4.alloc _) ⟨w4.heap.size, 0, none⟩ 1 1 [.int .u8 93, .bool false] rfl rfl (World.news_of_block (cs := #[.int .u8 93, .bool false]) (t := 29) (fr := (0, 0)) (heap_alloc_new w4 _)) (by simp [Value.oneCell']) (by omega) (by unfold maxLen; omega) (by omega) (base_alloc hN4 _) _ rfl ?_; intro gb' cb' w5 hob5 hgb5 hatb5 hltb5; obtain ⟨hoa5, hne5, hB5, hN5⟩ := apart_step (w := w) hN4 hob4 hoa4 (Ne.symm hne4) hgb5 hatb5; have hBx := hB5 (hB4 hB); have hoaX := hoa5.alloc (.cells #[.int .u8 c.toNat] 5); have hobX := hob5.alloc (.cells #[.int .u8 c.toNat] 5); have hBX := hBx.alloc hN5 (.cells #[.int .u8 c.toNat] 5); have cA1 := cA _ ga' ca' (setA_own hoaX) (hcapA _ _ _ _ _ hoaX)) | (go_at_call 8; first | ((with_reducible refine cA1.mono ?_); rintro e w6 ⟨rfl, hb6⟩; have cB1 := cB _ gb' cb' (own_below (setB_own hobX) hb6) (hcapA _ _ _ _ _ hobX)) | ((with_reducible refine cB1.mono ?_); rintro e w7 ⟨rfl, hb7⟩)))
          go_ret
          exact ⟨rfl, hBX.trans ((hb6.trans (hb7.mono hb6.size)).mono (base_alloc hN5 _))⟩
        · go_wp2_with (first | (at_builtin; refine wpList_append_lies _ rfl _ _ 23 rfl w.heap.size 29 i0 _ 2 2 Try.underlying23 hi hz0 hz1 hz2 rfl (by decide) (.slice (some ⟨ga, 0, none⟩) (s.size + 1) ca) (s.size + 1) (chCells ((91, false) :: plainL true s.data.toList)) rfl (hoa.alloc _) ⟨wr.heap.size, 0, none⟩ 1 1 [.int .u8 93, .bool false] rfl rfl (World.news_of_block (cs := #[.int .u8 93, .bool false]) (t := 29) (fr := (0, 0)) (heap_alloc_new wr _)) (by simp [Value.oneCell']) (by omega) (by unfold maxLen; omega) (by omega) (base_alloc hN _) _ rfl ?_; intro ga' ca' w4 hoa4 hga4 hata4 hlta4; obtain ⟨hob4, hne4, hB4, hN4⟩ := apart_step (w := w) hN hoa hob hne' hga4 hata4) | (at_builtin; refine wpList_append_lies _ rfl _ _ 23 rfl w.heap.size 29 i0 _ 2 2 Try.underlying23 hi hz0 hz1 hz2 rfl (by decide) (.slice (some ⟨gb, 0, none⟩) (s.size + 2) cb) (s.size + 2) (chCells ((91, false) :: (33, false) :: plainL true s.data.toList)) rfl (hob4.alloc _) ⟨w4.heap.size, 0, none⟩ 1 1 [.int .u8 93, .bool false] rfl rfl (World.news_of_block (cs := #[.int .u8 93, .bool false]) (t := 29) (fr := (0, 0)) (heap_alloc_new w4 _)) (by simp [Value.oneCell']) (by omega) (by unfold maxLen; omega) (by omega) (base_alloc hN4 _) _ rfl ?_; intro gb' cb' w5 hob5 hgb5 hatb5 hltb5; obtain ⟨hoa5, hne5, hB5, hN5⟩ := apart_step (w := w) hN4 hob4 hoa4 (Ne.symm hne4) hgb5 hatb5; have hBx := hB5 (hB4 hB); have hoaX := hoa5.alloc (.cells #[.int .u8 c.toNat] 5); have hobX := hob5.alloc (.cells #[.int .u8 c.toNat] 5); have hBX := hBx.alloc hN5 (.cells #[.int .u8 c.toNat] 5); have cA1 := cA _ ga' ca' (setA_own hoaX) (hcapA _ _ _ _ _ hoaX)) | (go_at_call 8; first | ((with_reducible refine cA1.mono ?_); rintro e w6 ⟨rfl, hb6⟩; have cB1 := cB _ gb' cb' (own_below (setB_own hobX) hb6) (hcapA _ _ _ _ _ hobX)) | ((with_reducible refine cB1.mono ?_); rintro e w7 ⟨rfl, hb7⟩)))
          go_ret
          exact ⟨rfl, hBX.trans ((hb6.trans (hb7.mono hb6.size)).mono (base_alloc hN5 _))⟩

theorem small_sets {H : Type} {s : ByteArray} {q : Lit} (hk : Rows.uptoSmall H [.lit (.string s.data.toList), .lit q] = true) : s.size ≤ 1048576 := by
  have h : Rows.uptoBulkAll [DataW.lit (H := H) (.string s.data.toList), DataW.lit (H := H) q] ≤ 1048576 := of_decide_eq_true hk
  simp only [Rows.uptoBulkAll] at h
  rw [show Rows.uptoBulk (DataW.lit (H := H) (.string s.data.toList)) = s.data.toList.length + 1 by simp only [Rows.uptoBulk], len_toList] at h
  omega
theorem sets_upto {H : Type} (s : ByteArray) (a : Int) (w : World) (_hs : s.size ≤ 140737488351232) (ha : (Lit.int .u8 a).wf = true) (hk : Rows.uptoSmall H [.lit (.string s.data.toList), .lit (.int .u8 a)] = true) :
    Calls Try.prog 6 #[.string s, .int .u8 a] w fun e w' => e = .returned (.bool true) ∧ Below w.heap.size w w' := by
  have h1 : IntKind.u8.min = 0 := rfl
  have h2 : IntKind.u8.max = 255 := rfl
  have hr : 0 ≤ a ∧ a < 256 := by simp [Lit.wf] at ha; omega
  have e : ((a.toNat.toUInt8).toNat : Int) = a := by
    rw [Nat.toUInt8_eq, UInt8.toNat_ofNat']
    omega
  have h := sets_walk s a.toNat.toUInt8 w (small_sets hk)
  rwa [e] at h
end Go.Proofs.Ytcaenkffoilleaa
