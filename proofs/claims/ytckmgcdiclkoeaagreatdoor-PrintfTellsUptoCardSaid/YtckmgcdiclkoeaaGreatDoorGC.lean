/- The reference's Echo. Conditions: sizes. The reference's once. Conditions: sizes. The reference's Format. Conditions: sizes. The program's Echo. Conditions: sizes. PrintfTells: true. Conditions: sizes; Go's table of bits is laid. PrintfTells's walk, at the second form's bound. No conditions. -/
import Derived.Test.YtckmgcdiclkoeaaGreatDoorRpB
import Derived.Test.YtckmgcdiclkoeaaGreatDoorSzT
import Derived.Test.YtckmgcdiclkoeaaGreatDoorRpK
import Derived.Test.YtckmgcdiclkoeaaGreatDoorGB
import Derived.Test.YtckmgcdiclkoeaaGreatDoorGA
import Derived.Test.YtckmgcdiclkoeaaGreatDoorLiftT
namespace Go.Proofs.YtckmgcdiclkoeaaGreatDoor
open Go.RowKit
open Go.Lib (hid)

theorem blankJ_snoc : ∀ (l : List (List UInt8)) (x : List UInt8), blankJ (l ++ [x]) = if l = [] then x else blankJ l ++ 32 :: x
  | [], x => by simp [blankJ]
  | y :: r, x => by simp [blankJ]
theorem blankJ_len : ∀ l : List (List UInt8), (blankJ l).length ≤ sizeTs l
  | [] => Nat.zero_le _
  | x :: r => by
    have h : ∀ r : List (List UInt8), (r.flatMap fun y => 32 :: y).length = sizeTs r := fun r => by
      induction r with
      | nil => rfl
      | cons y r ih =>
        simp only [List.flatMap_cons, List.length_append, List.length_cons, sizeTs, List.map_cons, List.sum_cons] at ih ⊢
        omega
    have := h r
    simp only [blankJ, List.length_append, sizeTs, List.map_cons, List.sum_cons] at this ⊢
    omega
theorem sizeTs_take (l : List (List UInt8)) (k : Nat) : sizeTs (l.take k) ≤ sizeTs l := by
  have e : sizeTs l = sizeTs (l.take k) + sizeTs (l.drop k) := by
    unfold sizeTs
    rw [← List.sum_append, ← List.map_append, List.take_append_drop]
  omega

set_option linter.unusedSimpArgs false in
set_option maxRecDepth 100000 in
set_option maxHeartbeats 4000000 in
theorem recho_any (A : Option Addr) (c : Nat) (l : List (List UInt8)) (w : World) (hT : TextsP w (fun _ => True) A l) (hc : l.length ≤ c) (hz : sizeTs l ≤ 1099511627776) :
    Calls Tryz.prog 7 #[.slice A l.length c] w fun e w' => e = .returned (encS (echoL l)) ∧ w' = w := by
  have hcase : (l = [] ∧ echoL l = [10]) ∨ (∃ a r, l = a :: r ∧ a = [45, 110] ∧ echoL l = blankJ r ++ []) ∨ (∃ a r, l = a :: r ∧ a ≠ [45, 110] ∧ echoL l = blankJ l ++ [10]) := by
    cases l with
    | nil => exact .inl ⟨rfl, rfl⟩
    | cons a r =>
      by_cases h : a = [45, 110]
      · exact .inr (.inl ⟨a, r, rfl, h, by simp [echoL, h]⟩)
      · exact .inr (.inr ⟨a, r, rfl, h, by simp [echoL, h]⟩)
  have hll := sizeTs_len l
  have key : ∀ (A' : Option Addr) (l' : List (List UInt8)), TextsP w (fun _ => True) A' l' → sizeTs l' ≤ 1099511627776 → ∀ k (h : k < l'.length), ∃ g o, A' = some ⟨g, o, none⟩ ∧ w.cell? ⟨g, o + k, none⟩ = some (encS l'[k]) ∧ Hid (∀ t, t = blankJ (l'.take k) → blankJ (l'.take (k + 1)) = if k = 0 then l'[k] else t ++ 32 :: l'[k]) ∧ l'[k].length ≤ 1099511627776 := fun A' l' h' hz' k hk => by
    obtain ⟨g, o, e, -, hc⟩ := h' k hk
    refine ⟨g, o, e, hc, hid fun t ht => ?_, by have := sizeTs_mem l' _ (List.getElem_mem hk); omega⟩
    rw [List.take_succ_eq_append_getElem hk, blankJ_snoc, ht]
    by_cases h0 : k = 0
    · subst h0; simp
    · rw [if_neg h0, if_neg (by intro e; have := congrArg List.length e; rw [List.length_take, List.length_nil] at this; omega)]
  rcases hcase with ⟨h0, he⟩ | ⟨a, r, hl, ha, he⟩ | ⟨a, r, hl, ha, he⟩
  · have HE := hid he
    have hl0 : ¬ (0 : Int) < (l.length : Int) := by rw [h0]; simp
    have hl1 : l.length = 0 := by rw [h0]; rfl
    clear h0 he key hT
    go_enter Tryz.func7, Tryz.ntmps7
    go_wp2_with fail
    go_loopw [4, 5] (fun vt vi wr => vt = encS [] ∧ vi = .int .i64 0 ∧ Hid (wr = w)) (fun _ _ _ => 0)
    case atStart => exact ⟨rfl, rfl, hid rfl⟩
    case round =>
      obtain ⟨rfl, rfl, HW⟩ := hrel
      obtain rfl := HW.out
      go_wp2_with fail
      go_ret
      exact ⟨by rw [HE.out]; rfl, rfl⟩
  all_goals
    have hl0 : (0 : Int) < (l.length : Int) := by rw [hl]; simp
    have hs0 : 1 ≤ l.length := by rw [hl]; simp
    obtain ⟨g, o, rfl, hc0, -, -⟩ := key A l hT hz 0 hs0
    have hla : l[0] = a := by simp only [hl, List.getElem_cons_zero]
    rw [hla] at hc0
    simp only [Nat.add_zero] at hc0
  · have hrl : l.length = r.length + 1 := by rw [hl]; rfl
    have hTr : TextsP w (fun _ => True) (some ⟨g, o + 1, none⟩) r := fun k hk => by
      obtain ⟨g2, o2, e, -, h⟩ := hT (k + 1) (by omega)
      cases e
      refine ⟨g, o + 1, rfl, trivial, ?_⟩
      have e1 : l[k + 1] = r[k] := by simp only [hl, List.getElem_cons_succ]
      rw [e1] at h
      rw [show o + 1 + k = o + (k + 1) by omega]
      exact h
    have hzr : sizeTs r ≤ 1099511627776 := by
      have : sizeTs l = a.length + 1 + sizeTs r := by rw [hl]; simp [sizeTs]
      omega
    have K := key _ r hTr hzr
    have HE := hid he
    subst ha
    have hrl2 := sizeTs_len r
    clear he hl hT key hla hTr
    by_cases hc1 : c = 1
    · have hr0 : r.length = 0 := by omega
      have HE2 : Hid (echoL l = []) := hid (by rw [HE.out, List.eq_nil_of_length_eq_zero hr0]; rfl)
      clear HE K
      subst hc1
      go_enter Tryz.func7, Tryz.ntmps7
      go_wp2_with fail
      go_loopw [4, 5] (fun vt vi wr => vt = encS [] ∧ vi = .int .i64 0 ∧ Hid (wr = w)) (fun _ _ _ => 0)
      case atStart => exact ⟨rfl, rfl, hid rfl⟩
      case round =>
        obtain ⟨rfl, rfl, HW⟩ := hrel
        obtain rfl := HW.out
        go_wp2_with fail
        go_ret
        exact ⟨by rw [HE2.out]; rfl, rfl⟩
    · go_enter Tryz.func7, Tryz.ntmps7
      go_wp2_with fail
      go_loopw [4, 5] (fun vt vi wr => ∃ (k : Nat) (t : List UInt8), k ≤ r.length ∧ vi = .int .i64 k ∧ vt = encS t ∧ Hid (t = blankJ (r.take k)) ∧ Hid (wr = w)) (fun _ vi _ => r.length - (intOf vi).toNat)
      case atStart => exact ⟨0, [], Nat.zero_le _, rfl, rfl, hid rfl, hid rfl⟩
      case round =>
        obtain ⟨k, t, hk, rfl, rfl, HT, HW⟩ := hrel
        obtain rfl := HW.out
        clear HW
        by_cases hlt : k < r.length
        · obtain ⟨g', o', e1, hck, HS, hxl⟩ := K k hlt
          cases e1
          have HS2 := hid (HS.out t HT.out)
          have htl : t.length ≤ 1099511627776 := by
            rw [HT.out]
            have h1 := blankJ_len (r.take k)
            have h2 := sizeTs_take r k
            omega
          have hkb : k < 1099511627776 := by omega
          generalize r[k] = x at *
          have hsplit : (∃ t2 : List UInt8, ¬ (0 : Int) < (k : Int) ∧ (⟨t.toArray⟩ : ByteArray) ++ (⟨x.toArray⟩ : ByteArray) = ⟨t2.toArray⟩ ∧ Hid (t2 = blankJ (r.take (k + 1)))) ∨ (∃ t1 t2 : List UInt8, (0 : Int) < (k : Int) ∧ (⟨t.toArray⟩ : ByteArray) ++ (⟨#[32]⟩ : ByteArray) = ⟨t1.toArray⟩ ∧ t1.length ≤ t.length + 1 ∧ (⟨t1.toArray⟩ : ByteArray) ++ (⟨x.toArray⟩ : ByteArray) = ⟨t2.toArray⟩ ∧ Hid (t2 = blankJ (r.take (k + 1)))) := by
            by_cases h0 : k = 0
            · refine .inl ⟨t ++ x, by omega, cat_texts _ _, hid ?_⟩
              rw [HS2.out, if_pos h0, HT.out, h0]
              simp [blankJ]
            · refine .inr ⟨t ++ [32], (t ++ [32]) ++ x, by omega, cat_texts _ _, by simp, cat_texts _ _, hid ?_⟩
              rw [HS2.out, if_neg h0]
              simp
          clear HS HS2 HT K
          rcases hsplit with ⟨t2, hp, hcat, HT2⟩ | ⟨t1, t2, hp, hcat1, ht1, hcat, HT2⟩
          all_goals
            go_wp2_with fail
            go_roundw
            case rel => first | exact ⟨k + 1, t2, by omega, by go_num, by first | rfl | rw [hcat], HT2, hid rfl⟩ | exact ⟨k + 1, t2, by omega, by go_num, by first | rfl | rw [hcat], HT2, hid trivial⟩
            case measure => simp [intOf]; omega
        · obtain rfl : k = r.length := by omega
          rw [List.take_length] at HT
          have htl : t.length ≤ 1099511627776 := by
            rw [HT.out]
            have h1 := blankJ_len r
            omega
          have hcat := cat_texts t ([] : List UInt8)
          obtain ⟨v, hv⟩ : ∃ v, t ++ ([] : List UInt8) = v := ⟨_, rfl⟩
          rw [hv] at hcat
          have HV : Hid (echoL l = v) := hid (by rw [HE.out, ← hv, HT.out])
          clear hv HT K HE
          go_wp2_with fail
          go_ret
          exact ⟨by rw [HV.out]; first | rfl | (rw [← hcat]; rfl), rfl⟩
  · have K := key _ l hT hz
    have HE := hid he
    have hne : (a == [45, 110]) = false := by simpa using ha
    clear he hl hT key hla ha
    go_enter Tryz.func7, Tryz.ntmps7
    go_wp2_with fail
    go_loopw [4, 5] (fun vt vi wr => ∃ (k : Nat) (t : List UInt8), k ≤ l.length ∧ vi = .int .i64 k ∧ vt = encS t ∧ Hid (t = blankJ (l.take k)) ∧ Hid (wr = w)) (fun _ vi _ => l.length - (intOf vi).toNat)
    case atStart => exact ⟨0, [], Nat.zero_le _, rfl, rfl, hid rfl, hid rfl⟩
    case round =>
      obtain ⟨k, t, hk, rfl, rfl, HT, HW⟩ := hrel
      obtain rfl := HW.out
      clear HW
      by_cases hlt : k < l.length
      · obtain ⟨g', o', e1, hck, HS, hxl⟩ := K k hlt
        cases e1
        have HS2 := hid (HS.out t HT.out)
        have htl : t.length ≤ 1099511627776 := by
          rw [HT.out]
          have h1 := blankJ_len (l.take k)
          have h2 := sizeTs_take l k
          omega
        have hkb : k < 1099511627776 := by omega
        generalize l[k] = x at *
        have hsplit : (∃ t2 : List UInt8, ¬ (0 : Int) < (k : Int) ∧ (⟨t.toArray⟩ : ByteArray) ++ (⟨x.toArray⟩ : ByteArray) = ⟨t2.toArray⟩ ∧ Hid (t2 = blankJ (l.take (k + 1)))) ∨ (∃ t1 t2 : List UInt8, (0 : Int) < (k : Int) ∧ (⟨t.toArray⟩ : ByteArray) ++ (⟨#[32]⟩ : ByteArray) = ⟨t1.toArray⟩ ∧ t1.length ≤ t.length + 1 ∧ (⟨t1.toArray⟩ : ByteArray) ++ (⟨x.toArray⟩ : ByteArray) = ⟨t2.toArray⟩ ∧ Hid (t2 = blankJ (l.take (k + 1)))) := by
          by_cases h0 : k = 0
          · refine .inl ⟨t ++ x, by omega, cat_texts _ _, hid ?_⟩
            rw [HS2.out, if_pos h0, HT.out, h0]
            simp [blankJ]
          · refine .inr ⟨t ++ [32], (t ++ [32]) ++ x, by omega, cat_texts _ _, by simp, cat_texts _ _, hid ?_⟩
            rw [HS2.out, if_neg h0]
            simp
        clear HS HS2 HT K
        rcases hsplit with ⟨t2, hp, hcat, HT2⟩ | ⟨t1, t2, hp, hcat1, ht1, hcat, HT2⟩
        all_goals
          go_wp2_with fail
          go_roundw
          case rel => first | exact ⟨k + 1, t2, by omega, by go_num, by first | rfl | rw [hcat], HT2, hid rfl⟩ | exact ⟨k + 1, t2, by omega, by go_num, by first | rfl | rw [hcat], HT2, hid trivial⟩
          case measure => simp [intOf]; omega
      · obtain rfl : k = l.length := by omega
        rw [List.take_length] at HT
        have htl : t.length ≤ 1099511627776 := by
          rw [HT.out]
          have h1 := blankJ_len l
          omega
        have hcat := cat_texts t [10]
        obtain ⟨v, hv⟩ : ∃ v, t ++ [10] = v := ⟨_, rfl⟩
        rw [hv] at hcat
        have HV : Hid (echoL l = v) := hid (by rw [HE.out, ← hv, HT.out])
        clear hv HT K HE
        go_wp2_with fail
        go_ret
        exact ⟨by rw [HV.out]; first | rfl | (rw [← hcat]; rfl), rfl⟩
end Go.Proofs.YtckmgcdiclkoeaaGreatDoor
namespace Go.Proofs.YtckmgcdiclkoeaaGreatDoor
open Go.RowKit
open Go.Lib (hid)

theorem results_four {fn : Func} {t u v x : Tmp} (h : fn.results = #[.tmp t, .tmp u, .tmp v, .tmp x]) (tmps : Array Value) (P : Program) (w : World) :
    (results fn tmps).run P w = .ok (.tuple #[tmps.getD t undef, tmps.getD u undef, tmps.getD v undef, tmps.getD x undef]) w := by
  simp [results, h]
theorem ahead_ahead (y : List UInt8) (st : Nat) (o : List UInt8) (m : Nat) (r : Rd) : (r.ahead o m).ahead y st = r.ahead (y ++ o) (max st m) := by
  simp [Rd.ahead, List.append_assoc, Nat.max_assoc]
theorem ahead_nil (y : List UInt8) (st : Nat) (o : List UInt8) (r : Rd) : (r.ahead o 0).ahead y st = r.ahead (y ++ o) st := by
  rw [ahead_ahead]; simp

theorem five_cells {W : World} {g : Nat} {a b c d e : Value} {T : TypeId} (h : W.heap[g]? = some (.cells #[a, b, c, d, e] T (0, 0))) : W.cell? ⟨g, 0, none⟩ = some a ∧ W.cell? ⟨g, 1, none⟩ = some b ∧ W.cell? ⟨g, 2, none⟩ = some c ∧ W.cell? ⟨g, 3, none⟩ = some d ∧ W.cell? ⟨g, 4, none⟩ = some e := by
  refine ⟨?_, ?_, ?_, ?_, ?_⟩ <;> simp [World.cell?, h]
theorem told_st (x : Sp) (a : List UInt8) : (toldL x a).2 ≤ 1 := by
  have h2 := badC_le x.letter a
  rw [told_text]
  simp only
  omega

set_option linter.unusedSimpArgs false in
set_option maxRecDepth 100000 in
set_option maxHeartbeats 8000000 in
theorem ronce_any (hC : SpecOk) (s : List UInt8) (A0 : Option Addr) (c0 : Nat) (args : List (List UInt8)) (w : World) (hT : TextsP w (fun _ => True) A0 args) (hc0 : args.length ≤ c0) (hs : s.length ≤ 1073741824) (hz : sizeTs args ≤ 1099511627776) :
    Calls Tryz.prog 16 #[encS s, .slice A0 args.length c0] w fun e w' => ∃ A c, e = .returned (.tuple #[encS (onceL s args).text, .slice A (onceL s args).left.length c, .int .i64 (onceL s args).st, .bool (onceL s args).over]) ∧ TextsP w (fun _ => True) A (onceL s args).left ∧ (onceL s args).left.length ≤ c ∧ Below w.heap.size w w' := by
  obtain ⟨S, hS⟩ : ∃ S : ByteArray, (⟨s.toArray⟩ : ByteArray) = S := ⟨_, rfl⟩
  have hsz : S.size = s.length := by rw [← hS]; simp [ByteArray.size]
  have HG : Hid (∀ (k : Nat) (h : k < s.length) (h' : k < S.size), S[k]'h' = s[k]) := hid fun k h h' => by
    subst hS
    simp [ByteArray.getElem_eq_getElem_data]
  have HX : Hid (∀ i j, S.extract i j = ⟨((s.take j).drop i).toArray⟩) := hid fun i j => by rw [← hS]; exact ext_texts s i j
  rw [show encS s = .string S by rw [← hS]]
  clear hS
  have HT0 := hid hT
  clear hT
  go_enter Tryz.func16, Tryz.ntmps16
  go_wp2_with fail
  go_loopw [1, 8, 9, 10] (fun va vo vs vi wr => ∃ (i : Nat) (y : List UInt8) (st : Nat) (A : Option Addr) (c : Nat) (l : List (List UInt8)), i ≤ s.length ∧ vi = .int .i64 i ∧ vo = encS y ∧ vs = .int .i64 st ∧ st ≤ 1 ∧ va = .slice A l.length c ∧ l.length ≤ c ∧ (y.length + sizeTs l ≤ 1100 * i + sizeTs args ∧ sizeTs l ≤ sizeTs args) ∧
    Hid (TextsP w (fun _ => True) A l) ∧ Hid (onceL s args = (onceL (s.drop i) l).ahead y st) ∧ Hid (Below w.heap.size w wr)) (fun _ _ _ vi _ => s.length - (intOf vi).toNat)
  case atStart => exact ⟨0, [], 0, A0, c0, args, Nat.zero_le _, rfl, rfl, rfl, by omega, rfl, hc0, ⟨by simp, Nat.le_refl _⟩, HT0, hid (by simp [Rd.ahead]), hid (Below.refl _ _)⟩
  case round =>
    obtain ⟨i, y, st, A, cc, l, hi, rfl, rfl, rfl, hst, rfl, hcc, hy, HT, HE, HB⟩ := hrel
    clear hc0 HT0
    by_cases hlt : i < s.length
    · obtain ⟨c, hc⟩ : ∃ c, s[i] = c := ⟨_, rfl⟩
      obtain ⟨t, ht⟩ : ∃ t, s.drop (i + 1) = t := ⟨_, rfl⟩
      have hd : s.drop i = c :: t := by rw [List.drop_eq_getElem_cons hlt, hc, ht]
      have htl : t.length + i + 1 = s.length := by rw [← ht, List.length_drop]; omega
      have hdr : ∀ k, 1 ≤ k → t.drop (k - 1) = s.drop (i + k) := fun k hk => by
        rw [← ht, List.drop_drop]
        congr 1
        omega
      have hg : ∀ h, S[i]'h = c := fun h => by rw [HG.out i hlt h, hc]
      have hxs : S.extract i (i + 1) = ⟨[c].toArray⟩ := by
        rw [HX.out, List.drop_take, hd]
        simp
      have hxr : S.extract i s.length = ⟨(c :: t).toArray⟩ := by rw [HX.out, List.take_length, hd]
      have hstep := onceL_cons c t l
      rw [← hd] at hstep
      have hone := one_len t
      have hcc2 := cat_texts y [c]
      obtain ⟨yc, hyc⟩ : ∃ yc, y ++ [c] = yc := ⟨_, rfl⟩
      have hycl : yc.length = y.length + 1 := by rw [← hyc]; simp
      rw [hyc] at hcc2
      have hyb : y.length ≤ 2281701376000 := by omega
      by_cases h92 : c = 92
      · have q1 : ((c.toNat : Int) == 92) = true := by rw [h92]; rfl
        have q37 : ((c.toNat : Int) != 37) = true := by rw [h92]; rfl
        have h37 : c ≠ 37 := by rw [h92]; decide
        rw [h92] at hxr
        have cO := fun W => rone_any t W (by omega)
        obtain ⟨o, k, hok⟩ : ∃ o k, oneL t = (o, k) := ⟨_, _, rfl⟩
        rw [hok] at hstep cO hone
        simp only at cO hone
        by_cases hk : 0 < k
        · have HE2 : Hid (onceL s args = (onceL (s.drop (i + k)) l).ahead (y ++ o) st) := hid (by
            rw [HE.out, hstep, if_pos ⟨h92, hk⟩, hdr k (by omega), ahead_nil])
          have hco := cat_texts y o
          obtain ⟨yo, hyo⟩ : ∃ yo, y ++ o = yo := ⟨_, rfl⟩
          have hob : o.length ≤ 1 := hone.2.2.1
          have hyol : yo.length ≤ y.length + 1 := by rw [← hyo, List.length_append]; omega
          rw [hyo] at hco HE2
          have hks : i + k ≤ s.length := by omega
          have hkb : (0 : Int) < (k : Int) := by omega
          have hk4 : k ≤ 4 := hone.2.1
          have HY := hid (show (yo.length + sizeTs l ≤ 1100 * (i + k) + sizeTs args) ∧ sizeTs l ≤ sizeTs args by omega)
          clear hone hstep hyo hdr hok hd ht hyc hycl HE hc hcc2 h92 hxs
          go_wp2_with fail
          refine (cO _).mono ?_
          rintro e w1 ⟨rfl, hb1⟩
          have HB1 := hid (HB.out.trans (hb1.mono HB.out.size))
          clear hb1 cO HB
          go_wp2_with fail
          go_roundw
          case rel => exact ⟨i + k, yo, st, A, cc, l, hks, by go_num, rfl, rfl, hst, rfl, hcc, HY.out, HT, HE2, HB1⟩
          case measure => simp [intOf]; omega
        · have HE2 : Hid (onceL s args = (onceL (s.drop (i + 1)) l).ahead yc st) := hid (by
            rw [HE.out, hstep, if_neg (fun h => hk h.2), if_pos h37, ahead_nil, ← hyc, ht])
          have hkb : ¬ (0 : Int) < (k : Int) := by omega
          have HY := hid (show (yc.length + sizeTs l ≤ 1100 * (i + 1) + sizeTs args) ∧ sizeTs l ≤ sizeTs args by omega)
          clear hone hstep hdr hok hd ht hyc HE hc h92 h37
          go_wp2_with fail
          refine (cO _).mono ?_
          rintro e w1 ⟨rfl, hb1⟩
          have HB1 := hid (HB.out.trans (hb1.mono HB.out.size))
          clear hb1 cO HB
          go_wp2_with fail
          go_roundw
          case rel => exact ⟨i + 1, yc, st, A, cc, l, by omega, by go_num, rfl, rfl, hst, rfl, hcc, HY.out, HT, HE2, HB1⟩
          case measure => simp [intOf]; omega
      · have q1 : ((c.toNat : Int) == 92) = false := u8_ne (n := 92) h92
        rw [if_neg (fun h => h92 h.1)] at hstep
        by_cases h37 : c = 37
        · have q2 : ((c.toNat : Int) != 37) = false := by rw [h37]; rfl
          rw [if_neg (fun h => h h37)] at hstep
          rw [h37] at hxr
          have cC := fun W => hC t W (by omega)
          have hsp := spec_size t
          have hwd := spec_wide t
          obtain ⟨x, hx⟩ : ∃ x, specL t = x := ⟨_, rfl⟩
          rw [hx] at cC hsp hstep hwd
          have cTd := fun a W h => rtold_any x a W hwd h
          have hTl := fun a => told_len x hwd a
          have hTs := fun a => told_st x a
          obtain ⟨le, lf, zr, wd, sz⟩ := x
          simp only at hsp hstep hwd
          unfold spV at cC cTd
          simp only at cC cTd
          have hcase : (((le.toNat : Int) == 0) = true ∧ Hid (onceL s args = ⟨y, l, max st 1, true⟩)) ∨ (((le.toNat : Int) == 0) = false ∧ ((le.toNat : Int) == 37) = true ∧ 2 ≤ sz ∧ sz ≤ 6 ∧ i + sz ≤ s.length ∧ Hid (onceL s args = (onceL (s.drop (i + sz)) l).ahead (y ++ [37]) st)) ∨ (((le.toNat : Int) == 0) = false ∧ ((le.toNat : Int) == 37) = false ∧ 2 ≤ sz ∧ sz ≤ 6 ∧ i + sz ≤ s.length ∧ Hid (onceL s args = (onceL (s.drop (i + sz)) l.tail).ahead (y ++ (toldL ⟨le, lf, zr, wd, sz⟩ (argL l)).1) (max st (toldL ⟨le, lf, zr, wd, sz⟩ (argL l)).2))) := by
            by_cases l0 : le = 0
            · refine .inl ⟨by rw [l0]; rfl, hid ?_⟩
              rw [HE.out, hstep, if_pos l0]
              simp [Rd.ahead]
            · have q0 : ((le.toNat : Int) == 0) = false := u8_ne (n := 0) l0
              rcases hsp with h | ⟨s1, s2, s3, -⟩
              · exact absurd h l0
              · by_cases l37 : le = 37
                · refine .inr (.inl ⟨q0, by rw [l37]; rfl, s2, s3, by omega, hid ?_⟩)
                  rw [HE.out, hstep, if_neg l0, if_pos l37, hdr _ (by omega), ahead_nil]
                · refine .inr (.inr ⟨q0, u8_ne (n := 37) l37, s2, s3, by omega, hid ?_⟩)
                  rw [HE.out, hstep, if_neg l0, if_neg l37, hdr _ (by omega), ahead_ahead]
          have hst1 : max st 1 = 1 := by omega
          have hc37 := cat_texts y [37]
          obtain ⟨y37, hy37⟩ : ∃ y37, y ++ [37] = y37 := ⟨_, rfl⟩
          have hyl37 : y37.length = y.length + 1 := by rw [← hy37]; simp
          rw [hy37] at hc37
          clear hsp hstep hx hd ht HE hc h92 h37 hdr hone hyc hycl hcc2 hxs
          rcases hcase with ⟨r1, HE2⟩ | ⟨r1, r2, r3, r4, r5, HE2⟩ | ⟨r1, r2, r3, r4, r5, HE2⟩
          · rw [hst1] at HE2
            clear hTl hTs cTd hc37 hyl37 hy37
            go_wp2_with fail
            refine (cC _).mono ?_
            rintro e w1 ⟨rfl, hb1⟩
            have hB1 := HB.out.trans (hb1.mono HB.out.size)
            obtain ⟨W2, hW2⟩ : ∃ W2, w1.alloc (.cells #[.int .u8 le.toNat, .bool lf, .bool zr, .int .i64 wd, .int .i64 sz] 53) = W2 := ⟨_, rfl⟩
            have hb2 : Below w1.heap.size w1 W2 := by rw [← hW2]; exact (Below.refl _ _).alloc (Nat.le_refl _) _
            have hbx : W2.heap[w1.heap.size]? = some (.cells #[.int .u8 le.toNat, .bool lf, .bool zr, .int .i64 wd, .int .i64 sz] 53 (0, 0)) := by rw [← hW2]; exact heap_alloc_new _ _
            have x0 : W2.cell? ⟨w1.heap.size, 0, none⟩ = some (.int .u8 le.toNat) := by simp [World.cell?, hbx]
            have x4 : W2.cell? ⟨w1.heap.size, 4, none⟩ = some (.int .i64 sz) := by simp [World.cell?, hbx]
            have HB2 := hid (hB1.trans (hb2.mono hB1.size))
            clear hb1 hB1 hb2 hbx cC HB
            go_wp2_with fail
            (try simp only [Exit.inBlock, Exit.then])
            refine bodyPost_ret (results_four rfl _ _ _) rfl ?_
            exact ⟨A, cc, by rw [HE2.out]; rfl, by rw [HE2.out]; exact HT.out, by rw [HE2.out]; exact hcc, HB2.out⟩
          · rw [hy37] at HE2
            have HY := hid (show (y37.length + sizeTs l ≤ 1100 * (i + sz) + sizeTs args) ∧ sizeTs l ≤ sizeTs args by omega)
            clear hTl hTs cTd hy37
            go_wp2_with fail
            refine (cC _).mono ?_
            rintro e w1 ⟨rfl, hb1⟩
            have hB1 := HB.out.trans (hb1.mono HB.out.size)
            obtain ⟨W2, hW2⟩ : ∃ W2, w1.alloc (.cells #[.int .u8 le.toNat, .bool lf, .bool zr, .int .i64 wd, .int .i64 sz] 53) = W2 := ⟨_, rfl⟩
            have hb2 : Below w1.heap.size w1 W2 := by rw [← hW2]; exact (Below.refl _ _).alloc (Nat.le_refl _) _
            have hbx : W2.heap[w1.heap.size]? = some (.cells #[.int .u8 le.toNat, .bool lf, .bool zr, .int .i64 wd, .int .i64 sz] 53 (0, 0)) := by rw [← hW2]; exact heap_alloc_new _ _
            have x0 : W2.cell? ⟨w1.heap.size, 0, none⟩ = some (.int .u8 le.toNat) := by simp [World.cell?, hbx]
            have x4 : W2.cell? ⟨w1.heap.size, 4, none⟩ = some (.int .i64 sz) := by simp [World.cell?, hbx]
            have HB2 := hid (hB1.trans (hb2.mono hB1.size))
            clear hb1 hB1 hb2 hbx cC HB
            go_wp2_with fail
            go_roundw
            case rel => exact ⟨i + sz, y37, st, A, cc, l, r5, by go_num, rfl, rfl, hst, rfl, hcc, HY.out, HT, HE2, HB2⟩
            case measure => simp [intOf]; omega
          · obtain ⟨R, hR⟩ : ∃ R, (toldL ⟨le, lf, zr, wd, sz⟩ (argL l)).1 = R := ⟨_, rfl⟩
            obtain ⟨bad, hbad⟩ : ∃ b, (toldL ⟨le, lf, zr, wd, sz⟩ (argL l)).2 = b := ⟨_, rfl⟩
            have hRl := hTl (argL l)
            have hbl := hTs (argL l)
            rw [hR] at HE2 hRl
            rw [hbad] at HE2 hbl
            have hcR := cat_texts y R
            obtain ⟨yR, hyR⟩ : ∃ yR, y ++ R = yR := ⟨_, rfl⟩
            have hyRl : yR.length = y.length + R.length := by rw [← hyR, List.length_append]
            rw [hyR] at hcR HE2
            obtain ⟨M, hM⟩ : ∃ M, max st bad = M := ⟨_, rfl⟩
            have hMi : max (st : Int) (bad : Int) = (M : Int) := by omega
            have hMs : M ≤ 1 := by omega
            rw [hM] at HE2
            clear hM
            have hlc : l = [] ∨ ∃ a r, l = a :: r := by
              cases l with
              | nil => exact .inl rfl
              | cons a r => exact .inr ⟨a, r, rfl⟩
            clear hc37 hyl37 hy37 hTl hTs
            rcases hlc with hl | ⟨a, r, hl⟩
            · subst hl
              rw [show argL ([] : List (List UInt8)) = [] from rfl] at hR hbad hRl
              simp only [List.length_nil] at hRl
              have cT := fun W => cTd [] W (by simp)
              simp only [hR, hbad] at cT
              have HY := hid (show (yR.length + sizeTs ([] : List (List UInt8)) ≤ 1100 * (i + sz) + sizeTs args) ∧ sizeTs ([] : List (List UInt8)) ≤ sizeTs args by simp only [sizeTs, List.map_nil, List.sum_nil] at *; omega)
              have hRb : R.length ≤ 1099 := by omega
              clear cTd hR hbad hyR hRl
              go_wp2_with fail
              refine (cC _).mono ?_
              rintro e w1 ⟨rfl, hb1⟩
              have hB1 := HB.out.trans (hb1.mono HB.out.size)
              obtain ⟨W2, hW2⟩ : ∃ W2, w1.alloc (.cells #[.int .u8 le.toNat, .bool lf, .bool zr, .int .i64 wd, .int .i64 sz] 53) = W2 := ⟨_, rfl⟩
              have hb2 : Below w1.heap.size w1 W2 := by rw [← hW2]; exact (Below.refl _ _).alloc (Nat.le_refl _) _
              have hbx : W2.heap[w1.heap.size]? = some (.cells #[.int .u8 le.toNat, .bool lf, .bool zr, .int .i64 wd, .int .i64 sz] 53 (0, 0)) := by rw [← hW2]; exact heap_alloc_new _ _
              obtain ⟨x0, x1, x2, x3, x4⟩ := five_cells hbx
              have HB2 := hid (hB1.trans (hb2.mono hB1.size))
              have HBX := hid hbx
              clear hb1 hB1 hb2 hbx cC HB
              go_wp2_with fail
              refine (cT _).mono ?_
              rintro e w6 ⟨rfl, hb6⟩
              have x46 : w6.cell? ⟨w1.heap.size, 4, none⟩ = some (.int .i64 sz) := (five_cells (heap_below' HBX.out hb6)).2.2.2.2
              have HB6 := hid (HB2.out.trans (hb6.mono HB2.out.size))
              clear hb6 cT HB2 HBX x0 x1 x2 x3 x4
              go_wp2_with fail
              go_roundw
              case rel => exact ⟨i + sz, yR, M, A, cc, [], r5, by go_num, rfl, rfl, hMs, rfl, hcc, HY.out, HT, HE2, HB6⟩
              case measure => simp [intOf]; omega
            · have hrl : l.length = r.length + 1 := by rw [hl]; rfl
              have hsl : sizeTs l = a.length + 1 + sizeTs r := by rw [hl]; simp [sizeTs]
              have hal : argL l = a := by rw [hl]; rfl
              have htlr : l.tail = r := by rw [hl]; rfl
              rw [hal] at hR hbad hRl
              rw [htlr] at HE2
              have hza : sizeTs l ≤ 1181116006400 + 1099511627776 := by omega
              have cT := fun W => cTd a W (by omega)
              simp only [hR, hbad] at cT
              have HY := hid (show (yR.length + sizeTs r ≤ 1100 * (i + sz) + sizeTs args) ∧ sizeTs r ≤ sizeTs args by omega)
              have hRb : R.length ≤ 2281701378000 := by omega
              obtain ⟨g, o, rfl, -, -⟩ := HT.out 0 (by omega)
              have HTr : Hid (TextsP w (fun _ => True) (some ⟨g, o + 1, none⟩) r) := hid fun k hk => by
                obtain ⟨g2, o2, e, -, h⟩ := HT.out (k + 1) (by omega)
                cases e
                refine ⟨g, o + 1, rfl, trivial, ?_⟩
                have e1 : l[k + 1] = r[k] := by simp only [hl, List.getElem_cons_succ]
                rw [e1] at h
                rw [show o + 1 + k = o + (k + 1) by omega]
                exact h
              have HTa : Hid (∀ W, Below w.heap.size w W → W.cell? ⟨g, o, none⟩ = some (encS a)) := hid fun W hB => by
                obtain ⟨g2, o2, e, -, h⟩ := (HT.out.below hB) 0 (by omega)
                cases e
                have hla : l[0] = a := by simp only [hl, List.getElem_cons_zero]
                rw [hla] at h
                simpa using h
              have hl0 : (0 : Int) < (l.length : Int) := by omega
              have hl1 : (1 : Int) ≤ (l.length : Int) := by omega
              have hcap : (cc = 1 ∧ r = []) ∨ (cc ≠ 1 ∧ r.length ≤ cc - 1) := by
                by_cases h : cc = 1
                · exact .inl ⟨h, List.eq_nil_of_length_eq_zero (by omega)⟩
                · exact .inr ⟨h, by omega⟩
              clear cTd hR hbad hyR hRl hsl hal htlr hl
              rcases hcap with ⟨hcp, hr0⟩ | ⟨hcp, hrc⟩
              · subst hr0
                subst hcp
                clear HTr
                go_wp2_with fail
                refine (cC _).mono ?_
                rintro e w1 ⟨rfl, hb1⟩
                have hB1 := HB.out.trans (hb1.mono HB.out.size)
                obtain ⟨W2, hW2⟩ : ∃ W2, w1.alloc (.cells #[.int .u8 le.toNat, .bool lf, .bool zr, .int .i64 wd, .int .i64 sz] 53) = W2 := ⟨_, rfl⟩
                have hb2 : Below w1.heap.size w1 W2 := by rw [← hW2]; exact (Below.refl _ _).alloc (Nat.le_refl _) _
                have hbx : W2.heap[w1.heap.size]? = some (.cells #[.int .u8 le.toNat, .bool lf, .bool zr, .int .i64 wd, .int .i64 sz] 53 (0, 0)) := by rw [← hW2]; exact heap_alloc_new _ _
                obtain ⟨x0, x1, x2, x3, x4⟩ := five_cells hbx
                have HB2 := hid (hB1.trans (hb2.mono hB1.size))
                have HBX := hid hbx
                clear hb1 hB1 hb2 hbx cC HB
                have xa := HTa.out W2 HB2.out
                go_wp2_with fail
                go_quiet (fail)
                have HB5 := hid (below_drewN HB2.out nq)
                have HBX5 : Hid ((W2.drewN nq).heap[w1.heap.size]? = some (.cells #[.int .u8 le.toNat, .bool lf, .bool zr, .int .i64 wd, .int .i64 sz] 53 (0, 0))) := hid HBX.out
                clear x0 x1 x2 x3 x4 xa HB2 HBX
                generalize W2.drewN nq = W5 at *
                obtain ⟨x0, x1, x2, x3, x4⟩ := five_cells HBX5.out
                go_wp2_with fail
                refine (cT _).mono ?_
                rintro e w6 ⟨rfl, hb6⟩
                have x46 : w6.cell? ⟨w1.heap.size, 4, none⟩ = some (.int .i64 sz) := (five_cells (heap_below' HBX5.out hb6)).2.2.2.2
                have HB6 := hid (HB5.out.trans (hb6.mono HB5.out.size))
                clear hb6 cT HB5 HBX5 x0 x1 x2 x3 x4
                go_wp2_with fail
                go_roundw
                case rel => exact ⟨i + sz, yR, M, _, _, [], r5, by go_num, rfl, rfl, hMs, rfl, Nat.zero_le _, HY.out, hid (fun k hk => absurd hk (Nat.not_lt_zero _)), HE2, HB6⟩
                case measure => simp [intOf]; omega
              · go_wp2_with fail
                refine (cC _).mono ?_
                rintro e w1 ⟨rfl, hb1⟩
                have hB1 := HB.out.trans (hb1.mono HB.out.size)
                obtain ⟨W2, hW2⟩ : ∃ W2, w1.alloc (.cells #[.int .u8 le.toNat, .bool lf, .bool zr, .int .i64 wd, .int .i64 sz] 53) = W2 := ⟨_, rfl⟩
                have hb2 : Below w1.heap.size w1 W2 := by rw [← hW2]; exact (Below.refl _ _).alloc (Nat.le_refl _) _
                have hbx : W2.heap[w1.heap.size]? = some (.cells #[.int .u8 le.toNat, .bool lf, .bool zr, .int .i64 wd, .int .i64 sz] 53 (0, 0)) := by rw [← hW2]; exact heap_alloc_new _ _
                obtain ⟨x0, x1, x2, x3, x4⟩ := five_cells hbx
                have HB2 := hid (hB1.trans (hb2.mono hB1.size))
                have HBX := hid hbx
                clear hb1 hB1 hb2 hbx cC HB
                have xa := HTa.out W2 HB2.out
                go_wp2_with fail
                go_quiet (fail)
                have HB5 := hid (below_drewN HB2.out nq)
                have HBX5 : Hid ((W2.drewN nq).heap[w1.heap.size]? = some (.cells #[.int .u8 le.toNat, .bool lf, .bool zr, .int .i64 wd, .int .i64 sz] 53 (0, 0))) := hid HBX.out
                clear x0 x1 x2 x3 x4 xa HB2 HBX
                generalize W2.drewN nq = W5 at *
                obtain ⟨x0, x1, x2, x3, x4⟩ := five_cells HBX5.out
                go_wp2_with fail
                refine (cT _).mono ?_
                rintro e w6 ⟨rfl, hb6⟩
                have x46 : w6.cell? ⟨w1.heap.size, 4, none⟩ = some (.int .i64 sz) := (five_cells (heap_below' HBX5.out hb6)).2.2.2.2
                have HB6 := hid (HB5.out.trans (hb6.mono HB5.out.size))
                clear hb6 cT HB5 HBX5 x0 x1 x2 x3 x4
                go_wp2_with fail
                go_roundw
                case rel => exact ⟨i + sz, yR, M, _, _, r, r5, by go_num, rfl, rfl, hMs, rfl, hrc, HY.out, HTr, HE2, HB6⟩
                case measure => simp [intOf]; omega
        · have q2 : ((c.toNat : Int) != 37) = true := by
            have e : ((c.toNat : Int) == 37) = false := u8_ne (n := 37) h37
            simp only [bne, e]; rfl
          have HE2 : Hid (onceL s args = (onceL (s.drop (i + 1)) l).ahead yc st) := hid (by
            rw [HE.out, hstep, if_pos h37, ahead_nil, ← hyc, ht])
          have HY := hid (show (yc.length + sizeTs l ≤ 1100 * (i + 1) + sizeTs args) ∧ sizeTs l ≤ sizeTs args by omega)
          clear hone hstep hdr hd ht hyc HE hc hxr
          go_wp2_with fail
          go_roundw
          case rel => exact ⟨i + 1, yc, st, A, cc, l, by omega, by go_num, rfl, rfl, hst, rfl, hcc, HY.out, HT, HE2, HB⟩
          case measure => simp [intOf]; omega
    · obtain rfl : i = s.length := by omega
      have HE2 : Hid (onceL s args = ⟨y, l, st, false⟩) := hid (by rw [HE.out, List.drop_length, onceL_nil]; simp [Rd.ahead])
      clear HE
      go_wp2_with fail
      (try simp only [Exit.inBlock, Exit.then])
      refine bodyPost_ret (results_four rfl _ _ _) rfl ?_
      exact ⟨A, cc, by rw [HE2.out]; rfl, by rw [HE2.out]; exact HT.out, by rw [HE2.out]; exact hcc, HB.out⟩
end Go.Proofs.YtckmgcdiclkoeaaGreatDoor
namespace Go.Proofs.YtckmgcdiclkoeaaGreatDoor
open Go.RowKit
open Go.Lib (hid)

theorem format_step (f : List UInt8) (args : List (List UInt8)) : formatL f args = if (onceL f args).over = true ∨ (onceL f args).left = [] ∨ convL f = 0 then ((onceL f args).text, (onceL f args).st)
    else ((onceL f args).text ++ (formatL f (onceL f args).left).1, max (onceL f args).st (formatL f (onceL f args).left).2) := by
  by_cases h : (onceL f args).over = true ∨ (onceL f args).left = [] ∨ convL f = 0
  · rw [if_pos h]
    unfold formatL
    rw [formF, if_pos h]
  · rw [if_neg h]
    refine format_more f args (fun e => h (.inr (.inl e))) (fun e => h (.inr (.inr (by rw [plan_conv0, e]; rfl)))) ?_
    cases hf : (planL f []).faulty with
    | false => rfl
    | true => exact absurd (Or.inl (show (onceL f args).over = true by rw [plan_once0]; exact hf)) h
theorem once_in (f : List UInt8) (args : List (List UInt8)) : (onceL f args).text.length ≤ (formatL f args).1.length := by
  rw [format_step]
  split
  · exact Nat.le_refl _
  · simp only [List.length_append]; omega
theorem once_left (f : List UInt8) (args : List (List UInt8)) : (onceL f args).left = args.drop (convL f) := by
  rw [plan_once0, plan_conv0]
  exact tell_left _ _
theorem once_len (f : List UInt8) (args : List (List UInt8)) : (onceL f args).text.length + sizeTs (onceL f args).left ≤ f.length * 1101 + sizeTs args := by
  have hpf := plan_facts f.length f [] (Nat.le_refl _)
  have ht := tell_len (planL f []).cvs args (fun x hx => (hpf.2.2 x hx).2)
  rw [plan_once0]
  simp only [List.length_append]
  have h1 := hpf.1
  simp only [List.length_nil, Nat.zero_add] at h1
  have h2 := hpf.2.1
  omega
theorem format_len (f : List UInt8) : ∀ (n : Nat) (args : List (List UInt8)), args.length ≤ n → (formatL f args).1.length ≤ (args.length + 1) * (f.length * 1101) + sizeTs args := by
  intro n
  induction n with
  | zero =>
    intro args h
    have h1 := once_len f args
    have hl : (onceL f args).left = [] := by rw [once_left, List.eq_nil_of_length_eq_zero (by omega : args.length = 0)]; simp
    rw [format_step, if_pos (.inr (.inl hl))]
    have : f.length * 1101 ≤ (args.length + 1) * (f.length * 1101) := Nat.le_mul_of_pos_left _ (by omega)
    simp only
    omega
  | succ n ih =>
    intro args h
    have h1 := once_len f args
    have hm : (args.length + 1) * (f.length * 1101) = args.length * (f.length * 1101) + f.length * 1101 := Nat.succ_mul _ _
    rw [format_step]
    split
    · simp only
      have : 0 ≤ args.length * (f.length * 1101) := Nat.zero_le _
      omega
    · rename_i hc
      have hcv : convL f ≠ 0 := fun e => hc (.inr (.inr e))
      have hle : (onceL f args).left ≠ [] := fun e => hc (.inr (.inl e))
      have hll : (onceL f args).left.length + 1 ≤ args.length := by
        have h2 := List.length_pos_iff.2 hle
        rw [once_left, List.length_drop] at h2 ⊢
        omega
      have h3 := ih (onceL f args).left (by omega)
      have h4 : ((onceL f args).left.length + 1) * (f.length * 1101) ≤ args.length * (f.length * 1101) := Nat.mul_le_mul_right _ hll
      simp only [List.length_append]
      omega
def sliceLen : Value → Nat
  | .slice _ n _ => n
  | _ => 0

set_option linter.unusedSimpArgs false in
set_option maxRecDepth 100000 in
set_option maxHeartbeats 4000000 in
theorem rformat_any (hC : SpecOk) (f : List UInt8) (A0 : Option Addr) (c0 : Nat) (args : List (List UInt8)) (w : World) (hA : TextsP w (fun _ => True) A0 args) (hc0 : args.length ≤ c0) (hs : f.length ≤ 1073741824) (hz : sizeTs args ≤ 1099511627776) (hL : (formatL f args).1.length ≤ 140737488355328) :
    Calls Tryz.prog 5 #[encS f, .slice A0 args.length c0] w fun e w' => e = .returned (.tuple #[encS (formatL f args).1, .int .i64 (formatL f args).2]) ∧ Below w.heap.size w w' := by
  have HA := hid hA
  clear hA
  go_enter Tryz.func5, Tryz.ntmps5
  go_wp2_with fail
  go_loopw [1, 6, 7] (fun va vo vs wr => ∃ (acc : List UInt8) (st : Nat) (A : Option Addr) (c : Nat) (l : List (List UInt8)), vo = encS acc ∧ vs = .int .i64 st ∧ va = .slice A l.length c ∧ l.length ≤ c ∧ sizeTs l ≤ 1099511627776 ∧ Hid (TextsP wr (fun _ => True) A l) ∧ Hid (formatL f args = (acc ++ (formatL f l).1, max st (formatL f l).2)) ∧ Hid (Below w.heap.size w wr)) (fun va _ _ _ => sliceLen va)
  case atStart => exact ⟨[], 0, A0, c0, args, rfl, rfl, rfl, hc0, hz, HA, hid (by simp), hid (Below.refl _ _)⟩
  case round =>
    obtain ⟨acc, st, A, c, l, rfl, rfl, rfl, hlc, hzl, HT, HE, HB⟩ := hrel
    have cO := ronce_any hC f A c l wr HT.out hlc hs hzl
    have hin := once_in f l
    have hdl := once_left f l
    have hst := format_step f l
    have hlen : acc.length + (formatL f l).1.length = (formatL f args).1.length := by rw [HE.out]; simp
    obtain ⟨⟨tx, lf, so, ov⟩, hO⟩ : ∃ O, onceL f l = O := ⟨_, rfl⟩
    rw [hO] at cO hin hdl hst
    simp only at cO hin hdl hst
    have hzd := sizeTs_drop l (convL f)
    rw [← hdl] at hzd
    have hcat := cat_texts acc tx
    obtain ⟨ax, hax⟩ : ∃ ax, acc ++ tx = ax := ⟨_, rfl⟩
    have haxl : ax.length = acc.length + tx.length := by rw [← hax, List.length_append]
    rw [hax] at hcat
    obtain ⟨M, hM⟩ : ∃ M, max st so = M := ⟨_, rfl⟩
    have hMi : max (st : Int) (so : Int) = (M : Int) := by omega
    have cV := fun W => rconvs_any hC f W (by omega)
    have hdd : lf.length = l.length - convL f := by rw [hdl, List.length_drop]
    obtain ⟨cv, hcv⟩ : ∃ n, convL f = n := ⟨_, rfl⟩
    rw [hcv] at cV hst hdd
    have hcase : (ov = true ∧ Hid (formatL f args = (ax, M))) ∨ (ov = false ∧ ((lf.length : Int) == 0) = true ∧ Hid (formatL f args = (ax, M))) ∨ (ov = false ∧ ((lf.length : Int) == 0) = false ∧ ((cv : Int) == 0) = true ∧ Hid (formatL f args = (ax, M))) ∨
        (ov = false ∧ ((lf.length : Int) == 0) = false ∧ ((cv : Int) == 0) = false ∧ lf.length < l.length ∧ Hid (formatL f args = (ax ++ (formatL f lf).1, max M (formatL f lf).2))) := by
      by_cases h : ov = true ∨ lf = [] ∨ cv = 0
      · rw [if_pos h] at hst
        have hF : formatL f args = (ax, M) := by rw [HE.out, hst, ← hax, ← hM]
        cases hov : ov with
        | true => exact .inl ⟨rfl, hid hF⟩
        | false =>
          rw [hov] at h
          by_cases hl : lf = []
          · exact .inr (.inl ⟨rfl, by rw [hl]; rfl, hid hF⟩)
          · have hl2 : ((lf.length : Int) == 0) = false := by
              have := List.length_pos_iff.2 hl
              simp only [beq_eq_false_iff_ne]
              omega
            have h0 : cv = 0 := by
              rcases h with h | h | h
              · cases h
              · exact absurd h hl
              · exact h
            exact .inr (.inr (.inl ⟨rfl, hl2, by rw [h0]; rfl, hid hF⟩))
      · rw [if_neg h] at hst
        have hl : lf ≠ [] := fun e => h (.inr (.inl e))
        have hl2 := List.length_pos_iff.2 hl
        have hc2 : cv ≠ 0 := fun e => h (.inr (.inr e))
        refine .inr (.inr (.inr ⟨by cases hov : ov; rfl; exact absurd (.inl hov) h, by simp only [beq_eq_false_iff_ne]; omega, by simp only [beq_eq_false_iff_ne]; omega, by omega, hid ?_⟩))
        rw [HE.out, hst, ← hax, ← hM]
        simp only [List.append_assoc, Nat.max_assoc]
    have hzl2 : sizeTs lf ≤ 1099511627776 := by omega
    have haxb : ax.length ≤ 140737488355328 := by omega
    have hacb : acc.length + tx.length ≤ 140737488355328 := by omega
    clear hin hdl hst hlen hO hzd hax haxl hM hdd hcv HE
    rcases hcase with ⟨rfl, HF⟩ | ⟨rfl, g1, HF⟩ | ⟨rfl, g1, g2, HF⟩ | ⟨rfl, g1, g2, hlt, HF⟩
    · go_wp2_with fail
      refine cO.mono ?_
      rintro e w1 ⟨A1, c1, rfl, hT1, hlc1, hb1⟩
      have HB1 := hid (HB.out.trans (hb1.mono HB.out.size))
      clear hb1 hT1 cO cV HB HT
      go_wp2_with fail
      go_ret2
      exact ⟨by rw [HF.out]; rfl, HB1.out⟩
    · go_wp2_with fail
      refine cO.mono ?_
      rintro e w1 ⟨A1, c1, rfl, hT1, hlc1, hb1⟩
      have HB1 := hid (HB.out.trans (hb1.mono HB.out.size))
      clear hb1 hT1 cO cV HB HT
      go_wp2_with fail
      go_ret2
      exact ⟨by rw [HF.out]; rfl, HB1.out⟩
    · go_wp2_with fail
      refine cO.mono ?_
      rintro e w1 ⟨A1, c1, rfl, hT1, hlc1, hb1⟩
      have HB1 := hid (HB.out.trans (hb1.mono HB.out.size))
      clear hb1 hT1 cO HB HT
      go_wp2_with fail
      refine (cV _).mono ?_
      rintro e w2 ⟨rfl, hb2⟩
      have HB2 := hid (HB1.out.trans (hb2.mono HB1.out.size))
      clear hb2 cV HB1
      go_wp2_with fail
      go_ret2
      exact ⟨by rw [HF.out]; rfl, HB2.out⟩
    · go_wp2_with fail
      refine cO.mono ?_
      rintro e w1 ⟨A1, c1, rfl, hT1, hlc1, hb1⟩
      have HB1 := hid (HB.out.trans (hb1.mono HB.out.size))
      have HT1 := hid (hT1.below hb1)
      clear hb1 hT1 cO HB HT
      go_wp2_with fail
      refine (cV _).mono ?_
      rintro e w2 ⟨rfl, hb2⟩
      have HB2 := hid (HB1.out.trans (hb2.mono HB1.out.size))
      have HT2 := hid (HT1.out.below hb2)
      clear hb2 cV HB1 HT1
      go_wp2_with fail
      go_roundw
      case rel => exact ⟨ax, M, A1, c1, lf, rfl, rfl, rfl, hlc1, hzl2, HT2, HF, HB2⟩
      case measure => simp only [sliceLen]; omega
end Go.Proofs.YtckmgcdiclkoeaaGreatDoor
namespace Go.Proofs.YtckmgcdiclkoeaaGreatDoor
open Go.RowKit
open Go.Lib (hid)

set_option linter.unusedSimpArgs false in
set_option maxRecDepth 100000 in
set_option maxHeartbeats 4000000 in
theorem echo_any (A : Option Addr) (c : Nat) (l : List (List UInt8)) (w : World) (hT : TextsP w (fun _ => True) A l) (hc : l.length ≤ c) (hz : sizeTs l ≤ 1099511627776) :
    Calls Tryz.prog 6 #[.slice A l.length c] w fun e w' => e = .returned (encS (echoL l)) ∧ Below w.heap.size w w' := by
  obtain ⟨N, hN⟩ : ∃ N, w.heap.size = N := ⟨_, rfl⟩
  have HN := hid hN
  have HI : Hid (Bld 37 N N 0 #[.pointer none, .slice none 0 0] [] (w.alloc (.cells #[.pointer none, .slice none 0 0] 37)) ∧ Below N w (w.alloc (.cells #[.pointer none, .slice none 0 0] 37))) :=
    hid ⟨bld_new 37 _ N N 0 _ (by decide) (Nat.le_refl _) (by rw [← hN]; exact heap_alloc_new _ _) rfl rfl, by rw [← hN]; exact (Below.refl _ _).alloc (Nat.le_refl _) _⟩
  have hcase : (l = [] ∧ echoL l = blankJ l ++ [10]) ∨ (∃ a r, l = a :: r ∧ a = [45, 110] ∧ echoL l = blankJ r ++ []) ∨ (∃ a r, l = a :: r ∧ a ≠ [45, 110] ∧ echoL l = blankJ l ++ [10]) := by
    cases l with
    | nil => exact .inl ⟨rfl, rfl⟩
    | cons a r =>
      by_cases h : a = [45, 110]
      · exact .inr (.inl ⟨a, r, rfl, h, by simp [echoL, h]⟩)
      · exact .inr (.inr ⟨a, r, rfl, h, by simp [echoL, h]⟩)
  have hll := sizeTs_len l
  have hlb : l.length ≤ 1099511627776 := by omega
  rcases hcase with ⟨h0, he⟩ | ⟨a, r, hl, ha, he⟩ | ⟨a, r, hl, ha, he⟩
  · subst h0
    have HE := hid he
    clear he hT
    go_enter Tryz.func6, Tryz.ntmps6
    go_wp2_with fail
    go_loopw [20] (fun vi wr => ∃ (k : Nat) (acc : List UInt8) (p v : Value), k ≤ ([] : List (List UInt8)).length ∧ vi = .int .i64 k ∧ Hid (Bld 37 N N 0 #[p, v] acc wr) ∧ Hid (acc = blankJ (([] : List (List UInt8)).take k)) ∧ Hid (Below N w wr)) (fun vi _ => ([] : List (List UInt8)).length - (intOf vi).toNat)
    case atStart => exact ⟨0, [], _, _, Nat.zero_le _, rfl, hid HI.out.1, hid (by simp [blankJ]), hid HI.out.2⟩
    case round =>
      obtain ⟨k, acc, p, v, hk, rfl, HB, HA, HW⟩ := hrel
      clear HI
      have hal : acc.length ≤ 1099511627776 := by
        rw [HA.out]
        have h1 := blankJ_len (([] : List (List UInt8)).take k)
        have h2 := sizeTs_take ([] : List (List UInt8)) k
        omega
      have hNw : N ≤ wr.heap.size := by have := HW.out.size; omega
      obtain rfl : k = ([] : List (List UInt8)).length := by simp at hk ⊢; exact hk
      rw [List.take_length] at HA
      have HV : Hid (echoL ([] : List (List UInt8)) = acc ++ [10]) := hid (by rw [HE.out, HA.out])
      have cS := bstr_any 37 N N 0 #[p, v] acc [10] wr lies_out HB.out (by simp only [List.length_cons, List.length_nil]; omega) hNw
      clear HB HA HE
      go_wp2_with fail
      refine cS.mono ?_
      rintro e w2 ⟨rfl, ⟨v', hB2⟩, hbe⟩
      have hN2 : N ≤ w2.heap.size := by have := hbe.size; omega
      have cT := btold_any 37 N N 0 _ (acc ++ [10]) w2 hB2
      have HW2 := hid (HW.out.trans (hbe.below (Nat.le_refl _) hNw))
      clear hB2 hbe cS HW
      go_wp2_with fail
      refine cT.mono ?_
      rintro e w3 ⟨rfl, -, hbe⟩
      have HW3 := hid (HW2.out.trans (hbe.below (Nat.le_refl _) hN2))
      clear hbe cT HW2
      go_wp2_with fail
      go_ret
      exact ⟨by rw [HV.out]; rfl, by rw [HN.out]; exact HW3.out⟩
  all_goals
    have hl0 : (0 : Int) < (l.length : Int) := by rw [hl]; simp
    have hs0 : 0 < l.length := by rw [hl]; simp
    obtain ⟨g, o, rfl, -, hc0⟩ := hT 0 hs0
    have hla : l[0] = a := by simp only [hl, List.getElem_cons_zero]
    rw [hla] at hc0
    simp only [Nat.add_zero] at hc0
  · have hrl : l.length = r.length + 1 := by rw [hl]; rfl
    have HTw : Hid (TextsP w (fun _ => True) (some ⟨g, o + 1, none⟩) r) := hid fun k hk => by
      obtain ⟨g2, o2, e, -, h⟩ := hT (k + 1) (by omega)
      cases e
      refine ⟨g, o + 1, rfl, trivial, ?_⟩
      have e1 : l[k + 1] = r[k] := by simp only [hl, List.getElem_cons_succ]
      rw [e1] at h
      rw [show o + 1 + k = o + (k + 1) by omega]
      exact h
    have hzr : sizeTs r ≤ 1099511627776 := by
      have : sizeTs l = a.length + 1 + sizeTs r := by rw [hl]; simp [sizeTs]
      omega
    have HE := hid he
    have hrb : r.length ≤ 1099511627776 := by omega
    subst ha
    clear he hl hT hla hs0 hz hll
    by_cases hc1 : c = 1
    · have hr0 : r = [] := List.eq_nil_of_length_eq_zero (by omega)
      subst hr0
      subst hc1
      clear HTw
      go_enter Tryz.func6, Tryz.ntmps6
      go_wp2_with fail
      go_loopw [20] (fun vi wr => ∃ (k : Nat) (acc : List UInt8) (p v : Value), k ≤ ([] : List (List UInt8)).length ∧ vi = .int .i64 k ∧ Hid (Bld 37 N N 0 #[p, v] acc wr) ∧ Hid (acc = blankJ (([] : List (List UInt8)).take k)) ∧ Hid (Below N w wr)) (fun vi _ => ([] : List (List UInt8)).length - (intOf vi).toNat)
      case atStart => exact ⟨0, [], _, _, Nat.zero_le _, rfl, hid HI.out.1, hid (by simp [blankJ]), hid HI.out.2⟩
      case round =>
        obtain ⟨k, acc, p, v, hk, rfl, HB, HA, HW⟩ := hrel
        clear HI
        have hal : acc.length ≤ 1099511627776 := by
          rw [HA.out]
          have h1 := blankJ_len (([] : List (List UInt8)).take k)
          have h2 := sizeTs_take ([] : List (List UInt8)) k
          omega
        have hNw : N ≤ wr.heap.size := by have := HW.out.size; omega
        obtain rfl : k = ([] : List (List UInt8)).length := by simp at hk ⊢; exact hk
        rw [List.take_length] at HA
        have HV : Hid (echoL l = acc ++ []) := hid (by rw [HE.out, HA.out])
        have cS := bstr_any 37 N N 0 #[p, v] acc [] wr lies_out HB.out (by simp only [List.length_cons, List.length_nil]; omega) hNw
        clear HB HA HE
        go_wp2_with fail
        refine cS.mono ?_
        rintro e w2 ⟨rfl, ⟨v', hB2⟩, hbe⟩
        have hN2 : N ≤ w2.heap.size := by have := hbe.size; omega
        have cT := btold_any 37 N N 0 _ (acc ++ []) w2 hB2
        have HW2 := hid (HW.out.trans (hbe.below (Nat.le_refl _) hNw))
        clear hB2 hbe cS HW
        go_wp2_with fail
        refine cT.mono ?_
        rintro e w3 ⟨rfl, -, hbe⟩
        have HW3 := hid (HW2.out.trans (hbe.below (Nat.le_refl _) hN2))
        clear hbe cT HW2
        go_wp2_with fail
        go_ret
        exact ⟨by rw [HV.out, List.append_nil]; rfl, by rw [HN.out]; exact HW3.out⟩
    · skip
      go_enter Tryz.func6, Tryz.ntmps6
      go_wp2_with fail
      clear hrl
      go_loopw [20] (fun vi wr => ∃ (k : Nat) (acc : List UInt8) (p v : Value), k ≤ r.length ∧ vi = .int .i64 k ∧ Hid (Bld 37 N N 0 #[p, v] acc wr) ∧ Hid (acc = blankJ (r.take k)) ∧ Hid (Below N w wr)) (fun vi _ => r.length - (intOf vi).toNat)
      case atStart => exact ⟨0, [], _, _, Nat.zero_le _, rfl, hid HI.out.1, hid (by simp [blankJ]), hid HI.out.2⟩
      case round =>
        obtain ⟨k, acc, p, v, hk, rfl, HB, HA, HW⟩ := hrel
        clear HI
        have hal : acc.length ≤ 1099511627776 := by
          rw [HA.out]
          have h1 := blankJ_len (r.take k)
          have h2 := sizeTs_take r k
          omega
        have hNw : N ≤ wr.heap.size := by have := HW.out.size; omega
        by_cases hlt : k < r.length
        · obtain ⟨g', o', e1, -, hck⟩ := (HTw.out.below (show Below w.heap.size w wr by rw [HN.out]; exact HW.out)) k hlt
          cases e1
          have hxl := sizeTs_mem r _ (List.getElem_mem hlt)
          have HS := hid (show blankJ (r.take (k + 1)) = if r.take k = [] then r[k] else acc ++ 32 :: r[k] by
            rw [List.take_succ_eq_append_getElem hlt, blankJ_snoc, HA.out])
          obtain ⟨x, hx⟩ : ∃ x, r[k] = x := ⟨_, rfl⟩
          rw [hx] at hck hxl HS
          by_cases h0 : k = 0
          · have hk0 : ¬ (0 : Int) < (k : Int) := by omega
            have hac : acc = [] := by rw [HA.out, h0]; simp [blankJ]
            have HS2 : Hid (acc ++ x = blankJ (r.take (k + 1))) := hid (by rw [HS.out, if_pos (by rw [h0]; simp), hac]; simp)
            have cS := bstr_any 37 N N 0 #[p, v] acc x wr lies_out HB.out (by omega) hNw
            clear HB HA HS hac h0 hx
            go_wp2_with fail
            refine cS.mono ?_
            rintro e w2 ⟨rfl, ⟨v', hB2⟩, hbe⟩
            have HB2 := hid hB2
            have HW2 := hid (HW.out.trans (hbe.below (Nat.le_refl _) hNw))
            clear hB2 hbe cS hck
            go_wp2_with fail
            go_roundw
            case rel => exact ⟨k + 1, acc ++ x, _, v', by omega, by go_num, hid HB2.out, HS2, HW2⟩
            case measure => simp [intOf]; omega
          · have hk0 : (0 : Int) < (k : Int) := by omega
            have HS2 : Hid ((acc ++ [32]) ++ x = blankJ (r.take (k + 1))) := hid (by
              rw [HS.out, if_neg (fun e => by have := congrArg List.length e; rw [List.length_take, List.length_nil] at this; omega)]
              simp)
            have cB := bbyte_any 37 N N 0 #[p, v] acc 32 wr lies_out HB.out (by omega) hNw
            clear HB HA HS h0 hx
            go_wp2_with fail
            refine cB.mono ?_
            rintro e w2 ⟨rfl, ⟨v', hB2⟩, hbe⟩
            have hW2 := HW.out.trans (hbe.below (Nat.le_refl _) hNw)
            have hN2 : N ≤ w2.heap.size := by have := hbe.size; omega
            have hB2' : Bld 37 N N 0 #[.pointer (some ⟨N, 0, none⟩), v'] (acc ++ [32]) w2 := hB2
            have cS := bstr_any 37 N N 0 #[.pointer (some ⟨N, 0, none⟩), v'] (acc ++ [32]) x w2 lies_out hB2' (by simp only [List.length_append, List.length_singleton]; omega) hN2
            have HW2 := hid hW2
            clear hB2 hB2' hbe cB hW2 hck
            go_wp2_with fail
            refine cS.mono ?_
            rintro e w3 ⟨rfl, ⟨v2, hB3⟩, hbe⟩
            have HB3 := hid hB3
            have HW3 := hid (HW2.out.trans (hbe.below (Nat.le_refl _) hN2))
            clear hB3 hbe cS HW2
            go_wp2_with fail
            go_roundw
            case rel => exact ⟨k + 1, (acc ++ [32]) ++ x, _, v2, by omega, by go_num, hid HB3.out, HS2, HW3⟩
            case measure => simp [intOf]; omega
        · obtain rfl : k = r.length := by omega
          rw [List.take_length] at HA
          have HV : Hid (echoL l = acc ++ []) := hid (by rw [HE.out, HA.out])
          have cS := bstr_any 37 N N 0 #[p, v] acc [] wr lies_out HB.out (by simp only [List.length_cons, List.length_nil]; omega) hNw
          clear HB HA HE
          go_wp2_with fail
          refine cS.mono ?_
          rintro e w2 ⟨rfl, ⟨v', hB2⟩, hbe⟩
          have hN2 : N ≤ w2.heap.size := by have := hbe.size; omega
          have cT := btold_any 37 N N 0 _ (acc ++ []) w2 hB2
          have HW2 := hid (HW.out.trans (hbe.below (Nat.le_refl _) hNw))
          clear hB2 hbe cS HW
          go_wp2_with fail
          refine cT.mono ?_
          rintro e w3 ⟨rfl, -, hbe⟩
          have HW3 := hid (HW2.out.trans (hbe.below (Nat.le_refl _) hN2))
          clear hbe cT HW2
          go_wp2_with fail
          go_ret
          exact ⟨by rw [HV.out, List.append_nil]; rfl, by rw [HN.out]; exact HW3.out⟩
  · have HE := hid he
    have HTw := hid hT
    have hne : (a == [45, 110]) = false := by simpa using ha
    clear he hl hT hla ha hs0
    go_enter Tryz.func6, Tryz.ntmps6
    go_wp2_with fail
    go_loopw [20] (fun vi wr => ∃ (k : Nat) (acc : List UInt8) (p v : Value), k ≤ l.length ∧ vi = .int .i64 k ∧ Hid (Bld 37 N N 0 #[p, v] acc wr) ∧ Hid (acc = blankJ (l.take k)) ∧ Hid (Below N w wr)) (fun vi _ => l.length - (intOf vi).toNat)
    case atStart => exact ⟨0, [], _, _, Nat.zero_le _, rfl, hid HI.out.1, hid (by simp [blankJ]), hid HI.out.2⟩
    case round =>
      obtain ⟨k, acc, p, v, hk, rfl, HB, HA, HW⟩ := hrel
      clear HI
      have hal : acc.length ≤ 1099511627776 := by
        rw [HA.out]
        have h1 := blankJ_len (l.take k)
        have h2 := sizeTs_take l k
        omega
      have hNw : N ≤ wr.heap.size := by have := HW.out.size; omega
      by_cases hlt : k < l.length
      · obtain ⟨g', o', e1, -, hck⟩ := (HTw.out.below (show Below w.heap.size w wr by rw [HN.out]; exact HW.out)) k hlt
        cases e1
        have hxl := sizeTs_mem l _ (List.getElem_mem hlt)
        have HS := hid (show blankJ (l.take (k + 1)) = if l.take k = [] then l[k] else acc ++ 32 :: l[k] by
          rw [List.take_succ_eq_append_getElem hlt, blankJ_snoc, HA.out])
        obtain ⟨x, hx⟩ : ∃ x, l[k] = x := ⟨_, rfl⟩
        rw [hx] at hck hxl HS
        by_cases h0 : k = 0
        · have hk0 : ¬ (0 : Int) < (k : Int) := by omega
          have hac : acc = [] := by rw [HA.out, h0]; simp [blankJ]
          have HS2 : Hid (acc ++ x = blankJ (l.take (k + 1))) := hid (by rw [HS.out, if_pos (by rw [h0]; simp), hac]; simp)
          have cS := bstr_any 37 N N 0 #[p, v] acc x wr lies_out HB.out (by omega) hNw
          clear HB HA HS hac h0 hx
          go_wp2_with fail
          refine cS.mono ?_
          rintro e w2 ⟨rfl, ⟨v', hB2⟩, hbe⟩
          have HB2 := hid hB2
          have HW2 := hid (HW.out.trans (hbe.below (Nat.le_refl _) hNw))
          clear hB2 hbe cS hck
          go_wp2_with fail
          go_roundw
          case rel => exact ⟨k + 1, acc ++ x, _, v', by omega, by go_num, hid HB2.out, HS2, HW2⟩
          case measure => simp [intOf]; omega
        · have hk0 : (0 : Int) < (k : Int) := by omega
          have HS2 : Hid ((acc ++ [32]) ++ x = blankJ (l.take (k + 1))) := hid (by
            rw [HS.out, if_neg (fun e => by have := congrArg List.length e; rw [List.length_take, List.length_nil] at this; omega)]
            simp)
          have cB := bbyte_any 37 N N 0 #[p, v] acc 32 wr lies_out HB.out (by omega) hNw
          clear HB HA HS h0 hx
          go_wp2_with fail
          refine cB.mono ?_
          rintro e w2 ⟨rfl, ⟨v', hB2⟩, hbe⟩
          have hW2 := HW.out.trans (hbe.below (Nat.le_refl _) hNw)
          have hN2 : N ≤ w2.heap.size := by have := hbe.size; omega
          have hB2' : Bld 37 N N 0 #[.pointer (some ⟨N, 0, none⟩), v'] (acc ++ [32]) w2 := hB2
          have cS := bstr_any 37 N N 0 #[.pointer (some ⟨N, 0, none⟩), v'] (acc ++ [32]) x w2 lies_out hB2' (by simp only [List.length_append, List.length_singleton]; omega) hN2
          have HW2 := hid hW2
          clear hB2 hB2' hbe cB hW2 hck
          go_wp2_with fail
          refine cS.mono ?_
          rintro e w3 ⟨rfl, ⟨v2, hB3⟩, hbe⟩
          have HB3 := hid hB3
          have HW3 := hid (HW2.out.trans (hbe.below (Nat.le_refl _) hN2))
          clear hB3 hbe cS HW2
          go_wp2_with fail
          go_roundw
          case rel => exact ⟨k + 1, (acc ++ [32]) ++ x, _, v2, by omega, by go_num, hid HB3.out, HS2, HW3⟩
          case measure => simp [intOf]; omega
      · obtain rfl : k = l.length := by omega
        rw [List.take_length] at HA
        have HV : Hid (echoL l = acc ++ [10]) := hid (by rw [HE.out, HA.out])
        have cS := bstr_any 37 N N 0 #[p, v] acc [10] wr lies_out HB.out (by simp only [List.length_cons, List.length_nil]; omega) hNw
        clear HB HA HE
        go_wp2_with fail
        refine cS.mono ?_
        rintro e w2 ⟨rfl, ⟨v', hB2⟩, hbe⟩
        have hN2 : N ≤ w2.heap.size := by have := hbe.size; omega
        have cT := btold_any 37 N N 0 _ (acc ++ [10]) w2 hB2
        have HW2 := hid (HW.out.trans (hbe.below (Nat.le_refl _) hNw))
        clear hB2 hbe cS HW
        go_wp2_with fail
        refine cT.mono ?_
        rintro e w3 ⟨rfl, -, hbe⟩
        have HW3 := hid (HW2.out.trans (hbe.below (Nat.le_refl _) hN2))
        clear hbe cT HW2
        go_wp2_with fail
        go_ret
        exact ⟨by rw [HV.out]; rfl, by rw [HN.out]; exact HW3.out⟩
end Go.Proofs.YtckmgcdiclkoeaaGreatDoor
namespace Go.Proofs.YtckmgcdiclkoeaaGreatDoor
open Go.RowKit
open Go.Lib (hid)

theorem once_len2 (f : List UInt8) (args : List (List UInt8)) : (onceL f args).text.length + sizeTs (onceL f args).left ≤ f.length + 1100 * convL f + sizeTs args := by
  have hpf := plan_facts f.length f [] (Nat.le_refl _)
  have ht := tell_len (planL f []).cvs args (fun x hx => (hpf.2.2 x hx).2)
  rw [plan_once0, plan_conv0]
  simp only [List.length_append]
  have h1 := hpf.1
  simp only [List.length_nil, Nat.zero_add] at h1
  omega
theorem conv_len (f : List UInt8) : convL f ≤ f.length := by
  rw [plan_conv0]
  exact (plan_facts f.length f [] (Nat.le_refl _)).2.1
theorem format_len2 (f : List UInt8) : ∀ (n : Nat) (args : List (List UInt8)), args.length ≤ n → (formatL f args).1.length ≤ (args.length + 1) * f.length + 1100 * (args.length + f.length) + sizeTs args := by
  intro n
  induction n with
  | zero =>
    intro args h
    have h1 := once_len2 f args
    have hc := conv_len f
    have hl : (onceL f args).left = [] := by rw [once_left, List.eq_nil_of_length_eq_zero (by omega : args.length = 0)]; simp
    rw [format_step, if_pos (.inr (.inl hl))]
    have : f.length ≤ (args.length + 1) * f.length := Nat.le_mul_of_pos_left _ (by omega)
    simp only
    omega
  | succ n ih =>
    intro args h
    have h1 := once_len2 f args
    have hc := conv_len f
    have hm : (args.length + 1) * f.length = args.length * f.length + f.length := Nat.succ_mul _ _
    rw [format_step]
    split
    · simp only
      have : 0 ≤ args.length * f.length := Nat.zero_le _
      omega
    · rename_i hcc
      have hcv : convL f ≠ 0 := fun e => hcc (.inr (.inr e))
      have hle : (onceL f args).left ≠ [] := fun e => hcc (.inr (.inl e))
      have hlp := List.length_pos_iff.2 hle
      have hll : (onceL f args).left.length = args.length - convL f := by rw [once_left, List.length_drop]
      have h3 := ih (onceL f args).left (by omega)
      have h4 : ((onceL f args).left.length + 1) * f.length ≤ args.length * f.length := Nat.mul_le_mul_right _ (by omega)
      simp only [List.length_append]
      omega

set_option linter.unusedSimpArgs false in
set_option maxRecDepth 100000 in
set_option maxHeartbeats 4000000 in
theorem tells_walk (s : List UInt8) (A : Option Addr) (c : Nat) (l : List (List UInt8)) (w : World) (hT : TextsP w (fun _ => True) A l) (hcc : l.length ≤ c) (hs : s.length ≤ 1048576) (hz : sizeTs l ≤ 1048576) (hTb : Tab w) :
    Calls Tryz.prog 3 #[encS s, .slice A l.length c] w fun e w' => e = .returned (.bool true) ∧ Below w.heap.size w w' := by
  have hC : SpecOk := fun t W h => rconv_any t W h
  have hll := sizeTs_len l
  have hL : (formatL s l).1.length ≤ 140737488355328 := by
    have h1 := format_len2 s l.length l (Nat.le_refl _)
    have h2 : (l.length + 1) * s.length ≤ 1048577 * 1048576 := Nat.mul_le_mul (by omega) hs
    omega
  have cF := format_ok s A c l w hT hcc (by omega) hTb
  have cR := fun W (h : TextsP W (fun _ => True) A l) => rformat_any hC s A c l W h hcc (by omega) (by omega) hL
  have cE := fun W (h : TextsP W (fun _ => True) A l) => echo_any A c l W h hcc (by omega)
  have cE2 := fun W (h : TextsP W (fun _ => True) A l) => recho_any A c l W h hcc (by omega)
  have cX := fun W => escape_ok s W (by omega)
  have cX2 := fun W => rescape_any s W (by omega)
  have cV := fun W => conv_ok s W (by omega)
  have cV2 := fun W => rconvs_any hC s W (by omega)
  obtain ⟨⟨y, n⟩, hy⟩ : ∃ p, formatL s l = p := ⟨_, rfl⟩
  obtain ⟨ye, hye⟩ : ∃ p, echoL l = p := ⟨_, rfl⟩
  obtain ⟨yx, hyx⟩ : ∃ p, escL s = p := ⟨_, rfl⟩
  obtain ⟨yv, hyv⟩ : ∃ p, convL s = p := ⟨_, rfl⟩
  rw [hy] at cF cR
  simp only at cF cR
  rw [hye] at cE cE2
  rw [hyx] at cX cX2
  rw [hyv] at cV cV2
  have HT := hid hT
  have HTb := hid hTb
  clear hy hye hyx hyv hT hTb hC hL
  go_enter Tryz.func3, Tryz.ntmps3
  go_wp2_with fail
  refine cF.mono ?_
  rintro e w1 ⟨rfl, hb1⟩
  have HB1 := hid hb1
  have cR := cR w1 (HT.out.below HB1.out)
  clear hb1 cF
  go_wp2_with fail
  refine cR.mono ?_
  rintro e w2 ⟨rfl, hb2⟩
  have HB2 := hid (HB1.out.trans (hb2.mono HB1.out.size))
  have cE := cE w2 (HT.out.below HB2.out)
  clear hb2 cR HB1
  go_wp2_with fail
  refine cE.mono ?_
  rintro e w3 ⟨rfl, hb3⟩
  have HB3 := hid (HB2.out.trans (hb3.mono HB2.out.size))
  have cE2 := cE2 w3 (HT.out.below HB3.out)
  clear hb3 cE HB2
  go_wp2_with fail
  refine cE2.mono ?_
  rintro e w4 ⟨rfl, e4⟩
  obtain rfl := e4
  clear cE2
  go_wp2_with fail
  refine (cX _).mono ?_
  rintro e w5 ⟨rfl, hb5⟩
  have HB5 := hid (HB3.out.trans (hb5.mono HB3.out.size))
  clear hb5 cX HB3
  go_wp2_with fail
  refine (cX2 _).mono ?_
  rintro e w6 ⟨rfl, hb6⟩
  have HB6 := hid (HB5.out.trans (hb6.mono HB5.out.size))
  clear hb6 cX2 HB5
  go_wp2_with fail
  refine (cV _).mono ?_
  rintro e w7 ⟨rfl, hb7⟩
  have HB7 := hid (HB6.out.trans (hb7.mono HB6.out.size))
  clear hb7 cV HB6
  go_wp2_with fail
  refine (cV2 _).mono ?_
  rintro e w8 ⟨rfl, hb8⟩
  have HB8 := hid (HB7.out.trans (hb8.mono HB7.out.size))
  have cA := pr_alive format_ok w8 (HTb.out.below HB8.out)
  clear hb8 cV2 HB7
  go_wp2_with fail
  refine cA.mono ?_
  rintro e w9 ⟨rfl, hb9⟩
  have HB9 := hid (HB8.out.trans (hb9.mono HB8.out.size))
  clear hb9 cA HB8
  go_wp2_with fail
  go_ret
  exact ⟨rfl, HB9.out⟩
end Go.Proofs.YtckmgcdiclkoeaaGreatDoor
namespace Go.Proofs.YtckmgcdiclkoeaaGreatDoor
open Go.RowKit

theorem tells_upto {H : Type} {d : DataW H} (s : ByteArray) (A : Option Addr) (c : Nat) (l : List (List UInt8)) (w : World) (_ : s.size ≤ 140737488351232) (hP : TextsP w (fun _ => True) A l) (hlc : l.length ≤ c) (hz : sizeTs l ≤ 1048576) (hk : Rows.uptoSmall H [.lit (.string s.data.toList), d] = true) (hT : Tab w) :
    Calls Tryz.prog 3 #[.string s, .slice A l.length c] w fun e w' => e = .returned (.bool true) ∧ Below w.heap.size w w' :=
  tells_walk s.data.toList A c l w hP hlc (text_le (by simp) hk) hz hT
end Go.Proofs.YtckmgcdiclkoeaaGreatDoor
