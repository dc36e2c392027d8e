
/- The program's octal, and its reader's literal: an escape, or else an octet. Conditions: sizes. -/
import Derived.Test.YtfeedppodffheaaDoorPpR
import Derived.Test.YtfeedppodffheaaDoorAoD
import Derived.Test.YtfeedppodffheaaDoorRpO
namespace Go.Proofs.YtfeedppodffheaaDoor
open Go.RowKit
open Go.Lib (hid)

theorem One.drew {b : Nat} {w w' : World} (h : One b w w') : One b w w'.drew := ⟨h.os, h.tape, h.output, h.size, h.block⟩
theorem cat_text2 (x y : List UInt8) : (⟨x.toArray⟩ : ByteArray) ++ (⟨y.toArray⟩ : ByteArray) = ⟨(x ++ y).toArray⟩ := by
  apply ByteArray.ext
  apply Array.toList_inj.1
  rw [ByteArray.data_append, Array.toList_append]
theorem ext_text2 (l : List UInt8) (i j : Nat) : (⟨l.toArray⟩ : ByteArray).extract i j = ⟨((l.take j).drop i).toArray⟩ := by
  apply ByteArray.ext
  apply Array.toList_inj.1
  rw [ByteArray.data_extract, Array.toList_extract, List.extract_eq_take_drop, List.drop_take]
theorem conv_one2 (w : World) (c : UInt8) : (convert 63 9 (.slice (some ⟨w.heap.size, 0, none⟩) 1 1)).run Tryd.prog (w.alloc (.cells #[.int .u8 c.toNat] 5)) = .ok (.string ⟨#[c]⟩) (w.alloc (.cells #[.int .u8 c.toNat] 5)) := by
  refine run_convert_bytes_back (P := Tryd.prog) _ 63 9 5 ⟨w.heap.size, 0, none⟩ 1 [c] Tryd.underlying63 Tryd.underlying5 Tryd.underlying9 (fun j hj => ?_)
  obtain rfl : j = 0 := by simp at hj; exact hj
  exact cell_of_one (heap_alloc_new w _)

/-- Octal digits, read behind a 0. -/
theorem val_oct : ∀ (l : List UInt8) (n : Nat), (∀ c ∈ l, octB c = true) → valFrom 8 n l = ((l.foldl (fun n c => 8 * n + (c.toNat - 48)) n : Nat) : Int)
  | [], _, _ => rfl
  | c :: r, n, h => by
    have h1 : 48 ≤ c.toNat ∧ c.toNat ≤ 55 := by have := h c (by simp); unfold octB at this; exact of_decide_eq_true this
    have h2 : digI (c.toNat : Int) = ((c.toNat - 48 : Nat) : Int) := by unfold digI; rw [if_pos (by omega)]; omega
    rw [valFrom, List.foldl_cons, h2, ← val_oct r (8 * n + (c.toNat - 48)) (fun c hc => h c (by simp [hc]))]
    congr 1
    omega
theorem lit_oct (l : List UInt8) (h : ∀ c ∈ l, octB c = true) (h0 : l ≠ []) (h3 : l.length ≤ 3) : litL (48 :: l) = ((octN l : Int), 0) := by
  obtain ⟨d, r, rfl⟩ : ∃ d r, l = d :: r := by
    cases l with
    | nil => exact absurd rfl h0
    | cons d r => exact ⟨d, r, rfl⟩
  have hd : 48 ≤ d.toNat ∧ d.toNat ≤ 55 := by have := h d (by simp); unfold octB at this; exact of_decide_eq_true this
  have hx : ¬ (d = 120 ∨ d = 88) := by
    rintro (rfl | rfl)
    · exact absurd hd.2 (by decide)
    · exact absurd hd.2 (by decide)
  have hle := octN_le _ h h3
  have hs : speltL (48 :: d :: r) = (d :: r, 8) := by rw [speltL, if_pos rfl, if_neg hx]
  have hg : goodL 8 (d :: r) = true := by
    unfold goodL
    rw [List.all_eq_true]
    intro c hc
    have h1 : 48 ≤ c.toNat ∧ c.toNat ≤ 55 := by have := h c hc; unfold octB at this; exact of_decide_eq_true this
    unfold digI
    rw [if_pos (by omega)]
    simp
    omega
  have hv : valFrom 8 0 (d :: r) = (octN (d :: r) : Int) := val_oct _ 0 h
  unfold litL
  rw [hs]
  simp only [readL, hg, if_true, hv]
  have hU : U ((octN (d :: r) : Nat) : Int) = ((octN (d :: r) : Nat) : Int) := U_in (by omega) (by omega)
  rw [hU, wrap64_id (by omega) (by omega)]
  rfl

/-- What octal digits tell. -/
def octT (l : List UInt8) : List UInt8 := if octN l % 256 = 0 then [] else [(octN l).toUInt8]

set_option maxRecDepth 100000 in
set_option maxHeartbeats 1000000 in
theorem octal_any (l : List UInt8) (w : World) (h : ∀ c ∈ l, octB c = true) (h0 : l ≠ []) (h3 : l.length ≤ 3) :
    Calls Tryd.prog 78 #[encS l] w fun e w' => e = .returned (encS (octT l)) ∧ Below w.heap.size w w' := by
  have hcat := cat_text2 [48] l
  have hsz : (⟨([48] ++ l).toArray⟩ : ByteArray).size ≤ maxLen := by simp [ByteArray.size, maxLen]; omega
  have hls : (⟨l.toArray⟩ : ByteArray).size ≤ 3 := by simpa [ByteArray.size] using h3
  have cL := fun W => literal_any ⟨([48] ++ l).toArray⟩ W hsz
  have e48 : (⟨([48] ++ l).toArray⟩ : ByteArray).data.toList = 48 :: l := by simp
  rw [e48, lit_oct l h h0 h3] at cL
  have hle := octN_le l h h3
  have HE : Hid (octT l = if octN l % 256 = 0 then [] else [(octN l).toUInt8]) := hid rfl
  obtain ⟨n, hn⟩ : ∃ n, octN l = n := ⟨_, rfl⟩
  rw [hn] at HE hle cL
  obtain ⟨S, hS⟩ : ∃ S : ByteArray, (⟨([48] ++ l).toArray⟩ : ByteArray) = S := ⟨_, rfl⟩
  rw [hS] at cL hcat
  have hcat2 : (⟨#[48]⟩ : ByteArray) ++ (⟨l.toArray⟩ : ByteArray) = S := hcat
  have htm : ((n : Int)).tmod 256 = ((n % 256 : Nat) : Int) := by
    rw [Int.tmod_eq_emod_of_nonneg (by omega)]; omega
  obtain ⟨m, hm⟩ : ∃ m, n % 256 = m := ⟨_, rfl⟩
  have hx : n.toUInt8.toNat = m := by rw [Nat.toUInt8_eq, UInt8.toNat_ofNat', ← hm]
  rw [hm] at htm HE
  have hm256 : m < 256 := by omega
  clear hsz hn hS hcat h h0 hm e48
  by_cases hz : m = 0
  · have HE2 : Hid (octT l = []) := hid (by rw [HE.out, if_pos hz])
    have hq : ((m : Int) == 0) = true := by simp [hz]
    clear HE hz hx
    go_enter Tryd.func78, Tryd.ntmps78
    go_wp2_with fail
    refine (cL _).mono ?_
    rintro e w1 ⟨rfl, rfl⟩
    go_wp2_with fail
    go_ret
    exact ⟨by rw [HE2.out]; rfl, Below.refl _ _⟩
  · have HE2 : Hid (octT l = [n.toUInt8]) := hid (by rw [HE.out, if_neg hz])
    have hq : ((m : Int) == 0) = false := by simp; omega
    obtain ⟨x, hxx⟩ : ∃ x, n.toUInt8 = x := ⟨_, rfl⟩
    rw [hxx] at hx HE2
    have hxw : IntKind.u8.wrap (m : Int) = (x.toNat : Int) := by rw [IntKind.wrap_u8]; omega
    have hcv := fun W => conv_one2 W x
    clear HE hz hx hxx
    go_enter Tryd.func78, Tryd.ntmps78
    go_wp2_with fail
    refine (cL _).mono ?_
    rintro e w1 ⟨rfl, rfl⟩
    go_wp2_with fail
    go_ret
    exact ⟨by rw [HE2.out]; rfl, (Below.refl _ _).alloc (Nat.le_refl _) _⟩

/-- What stands next: an escape's octets, or the octet; and how many octets it takes. -/
def litT (c : UInt8) (t : List UInt8) : List UInt8 × Nat := if c = 92 ∧ 0 < (oneL t).2 then oneL t else ([c], 1)
def mk8 : List UInt8 := [92, 97, 98, 102, 110, 114, 116, 118]
def oc8 : List UInt8 := [48, 49, 50, 51, 52, 53, 54, 55]
theorem in_mk8 : ∀ c : UInt8, inB mk8 c = (escOf c).isSome := Ans.all_u8 (by decide +kernel)
theorem in_oc8 : ∀ c : UInt8, inB oc8 c = octB c := Ans.all_u8 (by decide +kernel)
theorem run_mk8 (t : List UInt8) : (∃ d r b, t = d :: r ∧ escOf d = some b ∧ runL mk8 1 t = [d] ∧ oneL t = ([b], 2)) ∨ (runL mk8 1 t = [] ∧ oneL t = octE t) := by
  cases t with
  | nil => exact .inr ⟨rfl, by simp [oneL, octE, octsL]⟩
  | cons d r =>
    unfold runL
    rw [List.take_succ_cons, List.take_zero, List.takeWhile_cons, in_mk8]
    cases h : escOf d with
    | none => exact .inr ⟨by simp, by simp only [oneL, h]⟩
    | some b => exact .inl ⟨d, r, b, rfl, h, by simp, by simp only [oneL, h]⟩
theorem run_oc8 (t : List UInt8) : runL oc8 3 t = octsL t := by
  unfold runL octsL
  rw [show inB oc8 = octB from funext in_oc8]
theorem dec_esc (d b : UInt8) (h : escOf d = some b) : Ans.dec 0 [92, d] = .ok [b] := by
  have h1 : Ans.octL [92, d] = .ok (b, 2) := by
    unfold escOf at h
    repeat' split at h
    all_goals first
      | (rename_i e; subst e; obtain rfl := Option.some.inj h; rfl)
      | cases h
  rw [Ans.dec_ok h1]
  simp only [List.drop_succ_cons, List.drop_zero, Ans.dec_nil]
theorem octs_all (t : List UInt8) : ∀ c ∈ octsL t, octB c = true := fun c hc => by
  unfold octsL at hc
  exact mem_takeWhile octB _ c hc

set_option maxRecDepth 100000 in
set_option maxHeartbeats 1000000 in
theorem plit_any (T : TypeId) (b : Nat) (cs : Array Value) (s : List UInt8) (k : Nat) (c : UInt8) (t : List UInt8) (w : World) (hb : w.heap[b]? = some (.cells cs T (0, 0))) (h0 : cs[0]? = some (encS s)) (h1 : cs[1]? = some (.int .i64 k)) (hd : s.drop k = c :: t) (hs : s.length ≤ 140737488351232) :
    Calls Tryd.prog 62 #[.pointer (some ⟨b, 0, none⟩)] w fun e w' => e = .returned (encS (litT c t).1) ∧ w'.heap[b]? = some (.cells (cs.setIfInBounds 1 (.int .i64 ((k + (litT c t).2 : Nat) : Int))) T (0, 0)) ∧ One b w w' := by
  have hkl : k < s.length := by
    rcases Nat.lt_or_ge k s.length with h | h
    · exact h
    · rw [List.drop_eq_nil_of_le h] at hd; cases hd
  have hd1 : s.drop (k + 1) = t := by
    have := congrArg List.tail hd
    rwa [List.tail_drop] at this
  have htl : t.length + k + 1 = s.length := by rw [← hd1, List.length_drop]; omega
  obtain ⟨S, hS⟩ : ∃ S : ByteArray, (⟨s.toArray⟩ : ByteArray) = S := ⟨_, rfl⟩
  have hsz : S.size = s.length := by rw [← hS]; simp [ByteArray.size]
  have hsk : s[k] = c := by
    have := List.drop_eq_getElem_cons hkl
    rw [hd] at this
    exact (List.cons.inj this).1.symm
  have hg : ∀ h, S[k]'h = c := fun h => by
    subst hS
    rw [← hsk]
    simp [ByteArray.getElem_eq_getElem_data]
  have HX : Hid (∀ i j, S.extract i j = ⟨((s.take j).drop i).toArray⟩) := hid fun i j => by rw [← hS]; exact ext_text2 s i j
  have hS0 : (k : Int) < (S.size : Int) := by omega
  obtain ⟨W1, hW1⟩ : ∃ W1, w.setCell ⟨b, 1, none⟩ (.int .i64 ((k : Int) + 1)) = W1 := ⟨_, rfl⟩
  obtain ⟨cs1, hcs1⟩ : ∃ cs1, cs.setIfInBounds 1 (.int .i64 ((k : Int) + 1)) = cs1 := ⟨_, rfl⟩
  have hset : ∀ v, cs1.setIfInBounds 1 v = cs.setIfInBounds 1 v := fun v => by rw [← hcs1]; exact setIf_twice _ _ _ _
  have hb1 : W1.heap[b]? = some (.cells cs1 T (0, 0)) := by rw [← hW1, ← hcs1]; exact heap_setCell_same w b 1 cs T _ hb
  have e0 : cs1[0]? = some (encS s) := by rw [← hcs1, Array.getElem?_setIfInBounds_ne (by omega)]; exact h0
  have e1 : cs1[1]? = some (.int .i64 ((k + 1 : Nat) : Int)) := by rw [← hcs1]; exact setIf_self h1
  have ho1 : One b w W1 := by rw [← hW1]; exact (One.refl b w).setCell 1 _
  have cM := run_any T b cs1 s mk8 (k + 1) 1 W1 hb1 e0 e1 (by omega) hs
  rw [hd1] at cM
  have hxs : S.extract k (k + 1) = ⟨[c].toArray⟩ := by rw [HX.out, List.drop_take, hd]; simp
  rw [show encS s = .string S by rw [← hS]] at h0 e0
  have c0 : w.cell? ⟨b, 0, none⟩ = some (.string S) := (Lib.cell_of_heap hb 0).trans h0
  have c1 : w.cell? ⟨b, 1, none⟩ = some (.int .i64 k) := (Lib.cell_of_heap hb 1).trans h1
  have f1 : w.frozen? ⟨b, 1, none⟩ = false := Lib.frozen_of_heap hb 1
  have d0 : W1.cell? ⟨b, 0, none⟩ = some (.string S) := (Lib.cell_of_heap hb1 0).trans e0
  have d1 : W1.cell? ⟨b, 1, none⟩ = some (.int .i64 ((k : Int) + 1)) := (Lib.cell_of_heap hb1 1).trans e1
  have HC1 := hid hcs1
  have HSET := hid hset
  by_cases h92 : c = 92
  · subst h92
    rcases run_mk8 t with ⟨d, r, o, rfl, hdo, hrun, hone⟩ | ⟨hrun, hone⟩
    · have HL : Hid (litT 92 (d :: r) = ([o], 2)) := hid (by unfold litT; rw [hone]; rfl)
      rw [hrun] at cM
      have hk2 : (k : Int) + 2 ≤ (s.length : Int) := by simp only [List.length_cons] at htl; omega
      have hk0 : (0 : Int) ≤ (k : Int) + 2 := by omega
      have hk00 : (k : Int) ≤ (k : Int) + 2 := by omega
      have hx2 : S.extract k (k + 2) = ⟨[92, d].toArray⟩ := by
        rw [HX.out, List.drop_take, hd, show k + 2 - k = 2 by omega]
        rfl
      have cD := fun W => Ans.decode_any ⟨[92, d].toArray⟩ W (by simp [ByteArray.size])
      have edl : (⟨[92, d].toArray⟩ : ByteArray).data.toList = [92, d] := rfl
      rw [edl, dec_esc d o hdo] at cD
      change ∀ W, Calls _ _ _ W (fun e w' => e = .returned (.tuple #[encS [o], .int .i64 2, .int .i64 0]) ∧ Below W.heap.size W w') at cD
      obtain ⟨D, hD⟩ : ∃ D : ByteArray, (⟨[92, d].toArray⟩ : ByteArray) = D := ⟨_, rfl⟩
      rw [hD] at cD hx2
      have hx3 : S.extract k ((k : Int) + 2).toNat = D := by rw [show ((k : Int) + 2).toNat = k + 2 by omega]; exact hx2
      have HB := hid ho1
      have E1 := hid e1
      clear hb hb1 h0 h1 e1 hd hd1 hset hsk hcs1 ho1 hdo hone hrun edl hD
      go_enter Tryd.func62, Tryd.ntmps62
      go_wp2_with fail
      refine cM.mono ?_
      rintro e w2 ⟨rfl, hb2, ho2⟩
      have g0 : w2.cell? ⟨b, 0, none⟩ = some (.string S) := (Lib.cell_of_heap hb2 0).trans (by rw [Array.getElem?_setIfInBounds_ne (by omega)]; exact e0)
      have g1 : w2.cell? ⟨b, 1, none⟩ = some (.int .i64 ((k + 2 : Nat) : Int)) := (Lib.cell_of_heap hb2 1).trans (setIf_self E1.out)
      rw [HSET.out] at hb2
      have HB2 := hid (And.intro hb2 (HB.out.trans ho2))
      clear hb2 ho2 cM
      go_wp2_with fail
      go_region_law (go_simp; go_at_call 77; (with_reducible refine (cD _).mono ?_); rintro e w3 ⟨rfl, hb3⟩)
      all_goals
        go_wp2_with fail
        go_ret
        rw [HL.out]
        exact ⟨rfl, (hb3.block b (lt_of_block HB2.out.1)).trans HB2.out.1, (One.drew HB2.out.2).trans (One.of_below hb3)⟩
    · rw [hrun] at cM
      have HB := hid ho1
      have E0 := hid e0
      have E1 := hid e1
      have hk1 : (k : Int) + 1 ≤ (s.length : Int) := by omega
      have hlit : litT 92 t = if 0 < (octE t).2 then octE t else ([92], 1) := by unfold litT; rw [hone]; simp
      have hol := octs_len t
      have hall := octs_all t
      have hre := run_oc8 t
      have hES := hid (show encS s = .string S by rw [← hS])
      clear hb hb1 h0 h1 e0 e1 hd hset hsk hcs1 ho1 hone hrun
      by_cases hoc : octsL t = []
      · have HL : Hid (litT 92 t = ([92], 1)) := hid (by rw [hlit]; unfold octE; rw [if_pos hoc]; rfl)
        rw [hoc] at hre
        have HRE := hid hre
        clear hlit hoc hol hall hre
        go_enter Tryd.func62, Tryd.ntmps62
        go_wp2_with fail
        refine cM.mono ?_
        rintro e w2 ⟨rfl, hb2, ho2⟩
        have cO := run_any T b _ s oc8 (k + 1) 3 w2 hb2 (by rw [Array.getElem?_setIfInBounds_ne (by omega), hES.out]; exact E0.out) (setIf_self E1.out) (by omega) hs
        rw [hd1, HRE.out, HSET.out, setIf_twice] at cO
        have HB2 := hid (HB.out.trans ho2)
        clear hb2 ho2 cM
        go_wp2_with fail
        refine cO.mono ?_
        rintro e w3 ⟨rfl, hb3, ho3⟩
        have HB3 := hid (And.intro hb3 (HB2.out.trans ho3))
        clear hb3 ho3 cO
        go_wp2_with fail
        go_ret
        rw [HL.out]
        exact ⟨rfl, HB3.out.1, HB3.out.2⟩
      · have HL : Hid (litT 92 t = (octT (octsL t), (octsL t).length + 1)) := hid (by
          rw [hlit]
          unfold octE octT
          rw [if_neg hoc]
          split <;> simp)
        have HRE := hid hre
        have cT := fun W => octal_any (octsL t) W hall hoc hol.1
        obtain ⟨u, hu⟩ : ∃ u, octsL t = u := ⟨_, rfl⟩
        rw [hu] at HL HRE cT hoc hol
        have hune : (u == []) = false := by simpa using hoc
        have huneq : (u != []) = true := by simpa using hoc
        clear hlit hoc hall hre hu
        go_enter Tryd.func62, Tryd.ntmps62
        go_wp2_with fail
        refine cM.mono ?_
        rintro e w2 ⟨rfl, hb2, ho2⟩
        have cO := run_any T b _ s oc8 (k + 1) 3 w2 hb2 (by rw [Array.getElem?_setIfInBounds_ne (by omega), hES.out]; exact E0.out) (setIf_self E1.out) (by omega) hs
        rw [hd1, HRE.out, HSET.out, setIf_twice] at cO
        have HB2 := hid (HB.out.trans ho2)
        clear hb2 ho2 cM
        go_wp2_with fail
        refine cO.mono ?_
        rintro e w3 ⟨rfl, hb3, ho3⟩
        have HB3 := hid (And.intro hb3 (HB2.out.trans ho3))
        clear hb3 ho3 cO
        go_wp2_with fail
        refine (cT _).mono ?_
        rintro e w4 ⟨rfl, hb4⟩
        go_wp2_with fail
        go_ret
        rw [HL.out]
        exact ⟨rfl, by rw [show k + (u.length + 1) = k + 1 + u.length by omega]; exact (hb4.block b (lt_of_block HB3.out.1)).trans HB3.out.1, HB3.out.2.trans (One.of_below hb4)⟩
  · have hgc : ((c.toNat : Int) != 92) = true := by have := u8_ne (n := 92) h92; simpa [bne] using this
    have HL : Hid (litT c t = ([c], 1)) := hid (by unfold litT; rw [if_neg (fun h => h92 h.1)])
    have HB := hid (And.intro hb1 ho1)
    clear hb hb1 h0 h1 e0 e1 hd hd1 cM hset h92 hsk hcs1
    go_enter Tryd.func62, Tryd.ntmps62
    go_wp2_with fail
    go_quiet (fail)
    go_wp2_with fail
    go_ret
    rw [HL.out]
    exact ⟨rfl, by rw [← HC1.out] at HB; exact HB.out.1, HB.out.2.drewN _⟩
end Go.Proofs.YtfeedppodffheaaDoor
