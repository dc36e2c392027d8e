
/- TextsRev, TextsCount, TextsEnds: true, where the program's calls tell what the mathematics says. -/
import Derived.Test.YtfeedppodffheaaTxtP
namespace Go.Proofs.Ytfeedppodffheaa
open Go.RowKit
open Go.Lib (hid)

theorem cat_lists (x y : List UInt8) : (⟨x.toArray⟩ : ByteArray) ++ (⟨y.toArray⟩ : ByteArray) = ⟨(x ++ y).toArray⟩ := by
  apply ByteArray.ext
  apply Array.toList_inj.1
  rw [ByteArray.data_append, Array.toList_append]
theorem lines_sum : ∀ (n : Nat) (l : List UInt8), l.length ≤ n → ((linesL l).map List.length).sum ≤ l.length ∧ (joinE (linesL l)).length ≤ l.length + 1
  | n, l, h => by
    have hj : (joinE (linesL l)).length ≤ l.length + 1 := by rcases join_lines n l h with e | e <;> rw [e] <;> simp
    refine ⟨?_, hj⟩
    have key : ∀ ls : List (List UInt8), (joinE ls).length = (ls.map List.length).sum + ls.length := fun ls => by
      induction ls with
      | nil => rfl
      | cons x r ih => rw [show joinE (x :: r) = x ++ [10] ++ joinE r by simp [joinE]]; simp [ih]; omega
    rw [key] at hj
    cases l with
    | nil => rw [linesL]; exact Nat.zero_le _
    | cons c r =>
      have : (linesL (c :: r)).length ≠ 0 := by rw [linesL]; simp
      omega
theorem join_len (ls : List (List UInt8)) : (joinE ls).length = (ls.map List.length).sum + ls.length := by
  induction ls with
  | nil => rfl
  | cons x r ih => rw [show joinE (x :: r) = x ++ [10] ++ joinE r by simp [joinE]]; simp [ih]; omega
theorem rev_len (s : List UInt8) : (revT s).length ≤ s.length + 1 := by
  have h := (lines_sum _ s (Nat.le_refl _)).2
  unfold revT
  rw [join_len] at h ⊢
  rw [List.map_map, List.length_map]
  simpa [Function.comp_def] using h

set_option linter.unusedSimpArgs false in
set_option maxHeartbeats 2000000 in
theorem rev_walk {b1 b2 : Nat} (hT : TransOk b1) (hH : HeadOk b2) (h1 : 10 ≤ b1) (h2 : 10 ≤ b2) {b : Nat} (hR : RevOk (b + 1)) (hb : b ≤ 140737488351232) (s : List UInt8) (w : World) (hs : s.length ≤ b) :
    Calls Try.prog 4 #[encS s] w fun e w' => e = .returned (.bool true) ∧ Below w.heap.size w w' := by
  have cA := alive_any hT hH h1 h2 w
  have cR := fun W => hR s W (by omega)
  have hl := rev_len s
  have cR2 := fun W => hR (revT s) W (by omega)
  have hrr := rev_rev s
  generalize revT (revT s) = t at *
  generalize revT s = r at *
  have hcase : (t == s) = true ∨ ((t == s) = false ∧ t = s ++ [10]) := by
    rcases hrr with rfl | rfl
    · exact .inl (by simp)
    · exact .inr ⟨by simp, rfl⟩
  clear hrr
  rcases hcase with g | ⟨g, e⟩
  · go_enter Try.func4, Try.ntmps4
    go_wp2_with fail
    refine cA.mono ?_
    rintro e w1 ⟨rfl, hb1⟩
    have HB1 := hid hb1
    clear hb1 cA
    go_wp2_with fail
    refine (cR _).mono ?_
    rintro e w2 ⟨rfl, hb2⟩
    have HB2 := hid (HB1.out.trans (hb2.mono HB1.out.size))
    clear hb2 cR HB1
    go_wp2_with fail
    refine (cR2 _).mono ?_
    rintro e w3 ⟨rfl, hb3⟩
    have HB3 := hid (HB2.out.trans (hb3.mono HB2.out.size))
    clear hb3 cR2 HB2
    go_wp2_with fail
    go_ret
    exact ⟨rfl, HB3.out⟩
  · have hcat := cat_lists s [10]
    rw [← e] at hcat
    have hts : t.length ≤ b + 1 := by rw [e]; simp; omega
    clear e
    go_enter Try.func4, Try.ntmps4
    go_wp2_with fail
    refine cA.mono ?_
    rintro e w1 ⟨rfl, hb1⟩
    have HB1 := hid hb1
    clear hb1 cA
    go_wp2_with fail
    refine (cR _).mono ?_
    rintro e w2 ⟨rfl, hb2⟩
    have HB2 := hid (HB1.out.trans (hb2.mono HB1.out.size))
    clear hb2 cR HB1
    go_wp2_with fail
    refine (cR2 _).mono ?_
    rintro e w3 ⟨rfl, hb3⟩
    have HB3 := hid (HB2.out.trans (hb3.mono HB2.out.size))
    clear hb3 cR2 HB2
    go_wp2_with fail
    go_ret
    exact ⟨rfl, HB3.out⟩

set_option linter.unusedSimpArgs false in
set_option maxHeartbeats 2000000 in
theorem count_walk {b1 b2 : Nat} (hT : TransOk b1) (hH : HeadOk b2) (h1 : 10 ≤ b1) (h2 : 10 ≤ b2) {m : Nat} (hC : CountOk (m + m + 1)) (hm : m ≤ 140737488351232) (a b : List UInt8) (w : World) (ha : a.length ≤ m) (hb : b.length ≤ m) :
    Calls Try.prog 6 #[encS a, encS b] w fun e w' => e = .returned (.bool true) ∧ Below w.heap.size w w' := by
  have cA := alive_any hT hH h1 h2 w
  have cX := fun W => hC a W (by omega)
  have cY := fun W => hC b W (by omega)
  obtain ⟨c, hc⟩ : ∃ c, a ++ [10] = c := ⟨_, rfl⟩
  obtain ⟨d, hd⟩ : ∃ d, c ++ b = d := ⟨_, rfl⟩
  have hd2 : d = a ++ 10 :: b := by rw [← hd, ← hc]; simp
  have hdl : d.length = a.length + b.length + 1 := by rw [hd2]; simp; omega
  have hcl : c.length = a.length + 1 := by rw [← hc]; simp
  have cZ := fun W => hC d W (by omega)
  have e1 := cat_lists a [10]
  have e2 := cat_lists c b
  rw [hc] at e1
  rw [hd] at e2
  rw [show tensN d = tensN a + tensN b + 1 by rw [hd2]; exact tens_app a b, show wordsN false d = wordsN false a + wordsN false b by rw [hd2]; exact words_app a false b, hdl] at cZ
  have k1 : ∀ l : List UInt8, tensN l ≤ l.length := fun l => List.count_le_length
  have k2 : ∀ (l : List UInt8) (b : Bool), wordsN b l ≤ l.length := fun l => by
    induction l with
    | nil => intro b; simp [wordsN]
    | cons c r ih =>
      intro b
      rw [wordsN]
      split
      · have := ih false; simp; omega
      · have := ih true; cases b <;> simp <;> omega
  have x1 := k1 a
  have x2 := k1 b
  have y1 := k2 a false
  have y2 := k2 b false
  generalize tensN a = ta at *
  generalize tensN b = tb at *
  generalize wordsN false a = wa at *
  generalize wordsN false b = wb at *
  have hdb : d.length ≤ 281474976710656 := by omega
  clear hc hd hd2 k1 k2
  go_enter Try.func6, Try.ntmps6
  go_wp2_with fail
  refine cA.mono ?_
  rintro e w1 ⟨rfl, hb1⟩
  have HB1 := hid hb1
  clear hb1 cA
  go_wp2_with fail
  refine (cX _).mono ?_
  rintro e w2 ⟨rfl, hb2⟩
  have HB2 := hid (HB1.out.trans (hb2.mono HB1.out.size))
  clear hb2 cX HB1
  go_wp2_with fail
  refine (cY _).mono ?_
  rintro e w3 ⟨rfl, hb3⟩
  have HB3 := hid (HB2.out.trans (hb3.mono HB2.out.size))
  clear hb3 cY HB2
  go_wp2_with fail
  refine (cZ _).mono ?_
  rintro e w4 ⟨rfl, hb4⟩
  have HB4 := hid (HB3.out.trans (hb4.mono HB3.out.size))
  clear hb4 cZ HB3
  go_wp2_with fail
  go_ret
  exact ⟨by simp, HB4.out⟩

theorem tmod_span (n L : Int) (h : 0 ≤ L) : -L ≤ n.tmod (L + 1) ∧ n.tmod (L + 1) ≤ L := by
  have h1 := Int.tmod_lt_of_pos n (show (0 : Int) < L + 1 by omega)
  have h2 := Int.lt_tmod_of_pos n (show (0 : Int) < L + 1 by omega)
  omega
theorem ends_place (n L : Int) (h : 0 ≤ L) : 0 ≤ (n.tmod (L + 1) + L + 1).tmod (L + 1) ∧ (n.tmod (L + 1) + L + 1).tmod (L + 1) ≤ L := by
  have h1 := tmod_span n L h
  have h2 := tmod_span (n.tmod (L + 1) + L + 1) L h
  have h3 := Int.tmod_nonneg (L + 1) (show 0 ≤ n.tmod (L + 1) + L + 1 by omega)
  omega

set_option linter.unusedSimpArgs false in
set_option maxHeartbeats 4000000 in
theorem ends_walk {b1 : Nat} (hT : TransOk b1) (h1 : 10 ≤ b1) {b : Nat} (h2 : 10 ≤ b) (hH : HeadOk b) (hL : TailOk b) (hC : CountOk b) (hb : b ≤ 140737488351232) (s : List UInt8) (n : Int) (w : World) (hs : s.length ≤ b) :
    Calls Try.prog 3 #[encS s, .int .i64 n] w fun e w' => e = .returned (.bool true) ∧ Below w.heap.size w w' := by
  have cA := alive_any hT hH h1 h2 w
  have cC := fun W => hC s W hs
  have hkl := kept_len s
  have htl : tensN s ≤ s.length := List.count_le_length
  obtain ⟨L, hLL⟩ : ∃ L : Int, ((keptL s).length : Int) = L := ⟨_, rfl⟩
  have hL0 : 0 ≤ L := by omega
  have hLb : L ≤ 140737488351233 := by rw [← hLL, hkl]; split <;> omega
  have hq := tmod_span n L hL0
  have hr := ends_place n L hL0
  obtain ⟨q, hqq⟩ : ∃ q, n.tmod (L + 1) = q := ⟨_, rfl⟩
  rw [hqq] at hq hr
  obtain ⟨r, hrr⟩ : ∃ r, (q + L + 1).tmod (L + 1) = r := ⟨_, rfl⟩
  rw [hrr] at hr
  have HM := hid (ends_math s r L hr.1 hr.2 hLL.symm)
  have cH := fun W => hH s r W hs (by omega) (by omega)
  have cL := fun W => hL s (L - r) W hs (by omega) (by omega)
  obtain ⟨x, hx⟩ : ∃ x, headL s r = x := ⟨_, rfl⟩
  obtain ⟨y, hy⟩ : ∃ y, lastL3 s (L - r) = y := ⟨_, rfl⟩
  rw [hx] at cH
  rw [hy] at cL
  rw [hx, hy] at HM
  have hcat := cat_lists x y
  rw [HM.out] at hcat
  have hxl : x.length ≤ s.length := by have := congrArg List.length HM.out; rw [List.length_append] at this; omega
  have hyl : y.length ≤ s.length := by have := congrArg List.length HM.out; rw [List.length_append] at this; omega
  clear hx hy HM
  have hL1 : ¬ L + 1 = 0 := by omega
  generalize tensN s = T at *
  generalize wordsN false s = wn at *
  have HK := hid hkl
  clear hkl
  rcases List.eq_nil_or_concat s with h0 | ⟨l, c, h0⟩
  · have hTL : (T : Int) = L := by rw [← hLL, HK.out, h0]; simp [tailB]
    have hsE : s.isEmpty = true := by rw [h0]; rfl
    have hs0 : s.length = 0 := by rw [h0]; rfl
    subst h0
    subst hTL
    go_enter Try.func3, Try.ntmps3
    go_wp2_with fail
    refine cA.mono ?_
    rintro e w1 ⟨rfl, hb1⟩
    have HB1 := hid hb1
    clear hb1 cA
    go_wp2_with fail
    refine (cC _).mono ?_
    rintro e w2 ⟨rfl, hb2⟩
    have HB2 := hid (HB1.out.trans (hb2.mono HB1.out.size))
    clear hb2 cC HB1
    go_wp2_with fail
    refine (cH _).mono ?_
    rintro e w3 ⟨rfl, hb3⟩
    have HB3 := hid (HB2.out.trans (hb3.mono HB2.out.size))
    clear hb3 cH HB2
    go_wp2_with fail
    refine (cL _).mono ?_
    rintro e w4 ⟨rfl, hb4⟩
    have HB4 := hid (HB3.out.trans (hb4.mono HB3.out.size))
    clear hb4 cL HB3
    go_wp2_with fail
    go_ret
    exact ⟨rfl, HB4.out⟩
  · rw [List.concat_eq_append] at h0
    obtain ⟨hg, hsz, -, -⟩ := last_facts h0
    have hsl : s.length = l.length + 1 := by rw [h0]; simp
    have hse : s.isEmpty = false := by rw [h0]; cases l <;> rfl
    have hsn : (s == []) = false := by rw [h0]; cases l <;> rfl
    by_cases hc : c = 10
    · have hTL : (T : Int) = L := by rw [← hLL, HK.out, h0]; simp [tailB, hc]
      have g10 : ((c.toNat : Int) == 10) = true := by rw [hc]; rfl
      clear h0 hc HK hLL
      subst hTL
      go_enter Try.func3, Try.ntmps3
      go_wp2_with fail
      refine cA.mono ?_
      rintro e w1 ⟨rfl, hb1⟩
      have HB1 := hid hb1
      clear hb1 cA
      go_wp2_with fail
      refine (cC _).mono ?_
      rintro e w2 ⟨rfl, hb2⟩
      have HB2 := hid (HB1.out.trans (hb2.mono HB1.out.size))
      clear hb2 cC HB1
      go_wp2_with fail
      refine (cH _).mono ?_
      rintro e w3 ⟨rfl, hb3⟩
      have HB3 := hid (HB2.out.trans (hb3.mono HB2.out.size))
      clear hb3 cH HB2
      go_wp2_with fail
      refine (cL _).mono ?_
      rintro e w4 ⟨rfl, hb4⟩
      have HB4 := hid (HB3.out.trans (hb4.mono HB3.out.size))
      clear hb4 cL HB3
      go_wp2_with fail
      go_ret
      exact ⟨rfl, HB4.out⟩
    · have hTL : (T : Int) + 1 = L := by rw [← hLL, HK.out, h0]; simp [tailB, hc]
      have g10 : ((c.toNat : Int) == 10) = false := u8_ne (n := 10) hc
      clear h0 hc HK hLL
      go_enter Try.func3, Try.ntmps3
      go_wp2_with fail
      refine cA.mono ?_
      rintro e w1 ⟨rfl, hb1⟩
      have HB1 := hid hb1
      clear hb1 cA
      go_wp2_with fail
      refine (cC _).mono ?_
      rintro e w2 ⟨rfl, hb2⟩
      have HB2 := hid (HB1.out.trans (hb2.mono HB1.out.size))
      clear hb2 cC HB1
      go_wp2_with fail
      refine (cH _).mono ?_
      rintro e w3 ⟨rfl, hb3⟩
      have HB3 := hid (HB2.out.trans (hb3.mono HB2.out.size))
      clear hb3 cH HB2
      go_wp2_with fail
      refine (cL _).mono ?_
      rintro e w4 ⟨rfl, hb4⟩
      have HB4 := hid (HB3.out.trans (hb4.mono HB3.out.size))
      clear hb4 cL HB3
      go_wp2_with fail
      go_ret
      exact ⟨rfl, HB4.out⟩
end Go.Proofs.Ytfeedppodffheaa
