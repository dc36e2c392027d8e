
/- Plain mathematics of printf's laws: widths, numbers. No conditions. -/
import Derived.Test.YtfeedppodffheaaDoorPrL
namespace Go.Proofs.YtfeedppodffheaaDoor
open Go.RowKit

theorem form_conv {t : List UInt8} {x : Sp} {s y : List UInt8} {m : Nat} (e : specL t = x) (h0 : x.letter ≠ 0) (h1 : x.letter ≠ 37) (hd : t.drop (x.size - 1) = []) (ht : toldL x s = (y, m)) : formatL (37 :: t) [s] = (y, m) := by
  have e2 := once_conv [s] e h0 h1 hd
  rw [show argL [s] = s from rfl, ht, List.tail_cons, onceL_nil] at e2
  exact form_once (by rw [e2]; simp [Rd.ahead]) (by rw [e2]; simp [Rd.ahead]) (.inr (.inl (by rw [e2]; rfl)))
theorem dig_byte {d : Nat} (h : d < 10) : (48 + d).toUInt8.toNat = 48 + d := by rw [Nat.toUInt8_eq, UInt8.toNat_ofNat']; omega
theorem ne_of_nat {a b : UInt8} (h : a.toNat ≠ b.toNat) : a ≠ b := fun e => h (by rw [e])
theorem width_two {a b : Nat} (ha : a < 10) (hb : b < 10) : widthL [(48 + a).toUInt8, (48 + b).toUInt8, 115] = [(48 + a).toUInt8, (48 + b).toUInt8] := by
  unfold widthL
  have h1 : digB (48 + a).toUInt8 = true := by unfold digB; rw [dig_byte ha]; simp; omega
  have h2 : digB (48 + b).toUInt8 = true := by unfold digB; rw [dig_byte hb]; simp; omega
  have h3 : digB 115 = false := by decide
  generalize (48 + a).toUInt8 = x at *
  generalize (48 + b).toUInt8 = y at *
  simp [h1, h2, h3]
theorem dec_two {a b : Nat} (ha : a < 10) (hb : b < 10) : decN [(48 + a).toUInt8, (48 + b).toUInt8] = 10 * a + b := by
  unfold decN
  simp only [List.foldl_cons, List.foldl_nil]
  rw [dig_byte ha, dig_byte hb]
  omega
theorem specB_two (l z : Bool) (k : Nat) {a b : Nat} (ha : a < 10) (hb : b < 10) : specB l z k [(48 + a).toUInt8, (48 + b).toUInt8, 115] = ⟨115, l, z, 10 * a + b, k + 3⟩ := by
  unfold specB
  rw [width_two ha hb, dec_two ha hb]
  simp only [List.length_cons, List.length_nil, List.drop_succ_cons, List.drop_zero]
  rw [if_pos (by decide)]
theorem told_s (l : Bool) (w k : Nat) (s : List UInt8) : toldL ⟨115, l, false, w, k⟩ s = (if l then s ++ List.replicate (w - s.length) 32 else List.replicate (w - s.length) 32 ++ s, 0) := by
  have e : wideL ⟨115, l, false, w, k⟩ s = padL ⟨115, l, false, w, k⟩ [] s := by
    unfold wideL
    split
    · rfl
    · rw [if_neg (by simp)]
  unfold toldL
  simp only
  rw [if_neg (by decide), if_neg (by decide), if_neg (by decide), e]
  unfold padL
  cases l <;> simp
/-- P9.2: at least as many octets as are asked for. -/
theorem wide_math {a b : Nat} (ha : a < 10) (ha1 : 1 ≤ a) (hb : b < 10) (s : List UInt8) :
    formatL [37, (48 + a).toUInt8, (48 + b).toUInt8, 115] [s] = (List.replicate (10 * a + b - s.length) 32 ++ s, 0) ∧ formatL [37, 45, (48 + a).toUInt8, (48 + b).toUInt8, 115] [s] = (s ++ List.replicate (10 * a + b - s.length) 32, 0) := by
  have n1 : (48 + a).toUInt8 ≠ 37 := ne_of_nat (by rw [dig_byte ha]; show 48 + a ≠ 37; omega)
  have n2 : (48 + a).toUInt8 ≠ 45 := ne_of_nat (by rw [dig_byte ha]; show 48 + a ≠ 45; omega)
  have n3 : (48 + a).toUInt8 ≠ 48 := ne_of_nat (by rw [dig_byte ha]; show 48 + a ≠ 48; omega)
  have e1 : specL [(48 + a).toUInt8, (48 + b).toUInt8, 115] = ⟨115, false, false, 10 * a + b, 4⟩ := by
    unfold specL
    simp only
    have hf : flagB (48 + a).toUInt8 = false := by
      unfold flagB
      rw [beq_false_of_ne n2, beq_false_of_ne n3]
      rfl
    rw [if_neg n1, if_neg (by rw [hf]; simp), specB_two false false 1 ha hb]
  have e2 : specL [45, (48 + a).toUInt8, (48 + b).toUInt8, 115] = ⟨115, true, false, 10 * a + b, 5⟩ := by
    unfold specL
    simp only
    rw [if_neg (by decide), if_pos (by decide)]
    exact specB_two true false 2 ha hb
  refine ⟨form_conv e1 (show (115 : UInt8) ≠ 0 by decide) (show (115 : UInt8) ≠ 37 by decide) rfl ?_, form_conv e2 (show (115 : UInt8) ≠ 0 by decide) (show (115 : UInt8) ≠ 37 by decide) rfl ?_⟩
  · rw [told_s]; simp
  · rw [told_s]; simp

theorem trimW_none {l : List UInt8} (h : ∀ c ∈ l, blkW c = false) : trimW l = l := by
  have d : ∀ l : List UInt8, (∀ c ∈ l, blkW c = false) → l.dropWhile blkW = l := by
    intro l h
    cases l with
    | nil => rfl
    | cons c r => rw [List.dropWhile_cons, if_neg (by rw [h c (by simp)]; simp)]
  unfold trimW trimE
  rw [d l h, d l.reverse (fun c hc => h c (by simpa using hc)), List.reverse_reverse]
theorem digit_mem {l : List UInt8} (h : digitL l = true) {c : UInt8} (hc : c ∈ l) : c ≠ 32 ∧ c ≠ 9 ∧ c ≠ 45 ∧ c ≠ 43 := by
  unfold digitL at h
  exact (dig_of (List.all_eq_true.1 h c hc)).2
theorem parse_back {n : Int} (h0 : -9223372036854775808 ≤ n) (h1 : n ≤ 9223372036854775807) : parseW (printL n) = (n, 0) := by
  have hd := decD_digit n.natAbs
  have hr := read_dec (u := n.natAbs) (by omega)
  have hb : ∀ c ∈ decD n.natAbs, blkW c = false := fun c hc => by
    obtain ⟨a, b, -, -⟩ := digit_mem hd hc
    simp [blkW, a, b]
  unfold printL parseW
  split
  · rename_i hn
    rw [trimW_none (fun c hc => by
      rcases List.mem_cons.1 hc with rfl | hc
      · decide
      · exact hb c hc)]
    unfold signW
    simp only
    rw [if_pos trivial, hr]
    simp only
    rw [if_pos trivial, show -((n.natAbs : Nat) : Int) = n by omega, wrap64_id h0 h1]
  · rename_i hn
    rw [trimW_none hb]
    unfold signW
    have hne := decD_ne n.natAbs
    cases hx : decD n.natAbs with
    | nil => exact absurd hx hne
    | cons c r =>
      obtain ⟨-, -, a, b⟩ := digit_mem hd (c := c) (by rw [hx]; simp)
      rw [hx] at hr
      simp only
      rw [if_neg a, if_neg b, hr]
      simp only
      rw [if_pos trivial, show ((n.natAbs : Nat) : Int) = n by omega, wrap64_id h0 h1]
theorem told_n (c : UInt8) (hc : numB c = true) (s : List UInt8) : toldL ⟨c, false, false, 0, 2⟩ s = (numL c (parseW s).1, if s = [] ∨ (parseW s).2 = 0 then 0 else 1) := by
  have h1 : c ≠ 98 := fun e => by rw [e] at hc; exact absurd hc (by decide)
  have h2 : c ≠ 99 := fun e => by rw [e] at hc; exact absurd hc (by decide)
  unfold toldL
  simp only
  rw [if_neg h1, if_neg h2, if_pos hc, wide_none _ _ rfl rfl]
/-- P9.2: %d, %x, %o of a number's digits. -/
theorem numbers_math {n : Int} (h0 : -9223372036854775808 ≤ n) (h1 : n ≤ 9223372036854775807) :
    formatL [37, 100] [printL n] = (printL n, 0) ∧ formatL [37, 120] [printL n] = (basL 16 (U n).toNat, 0) ∧ formatL [37, 111] [printL n] = (basL 8 (U n).toNat, 0) := by
  have hp := parse_back h0 h1
  refine ⟨form_conv (spec_one [] (c := 100) (by decide)) (by decide) (by decide) rfl ?_, form_conv (spec_one [] (c := 120) (by decide)) (by decide) (by decide) rfl ?_, form_conv (spec_one [] (c := 111) (by decide)) (by decide) (by decide) rfl ?_⟩
  all_goals
    rw [told_n _ (by decide), hp]
    simp [numL]
theorem hexD_dig {d : Nat} (h : d < 16) : digI ((hexD d).toNat : Int) = d ∧ ((48 ≤ (hexD d).toNat ∧ (hexD d).toNat ≤ 57) ∨ (97 ≤ (hexD d).toNat ∧ (hexD d).toNat ≤ 102)) := by
  unfold hexD
  split
  · rw [Nat.toUInt8_eq, UInt8.toNat_ofNat', Nat.mod_eq_of_lt (by omega)]
    refine ⟨?_, .inl (by omega)⟩
    unfold digI
    rw [if_pos (by omega)]
    omega
  · rw [Nat.toUInt8_eq, UInt8.toNat_ofNat', Nat.mod_eq_of_lt (by omega)]
    refine ⟨?_, .inr (by omega)⟩
    unfold digI
    rw [if_neg (by omega), if_pos (by omega)]
    omega
/-- Digits as back reads them. -/
def hexB (c : UInt8) : Bool := decide ((48 ≤ c.toNat ∧ c.toNat ≤ 57) ∨ (97 ≤ c.toNat ∧ c.toNat ≤ 102))
theorem bas_hex {b : Nat} (hb2 : 2 ≤ b) (hb : b ≤ 16) (u : Nat) : (∀ c ∈ basL b u, hexB c = true) ∧ valFrom b 0 (basL b u) = u ∧ basL b u ≠ [] := by
  induction u using Nat.strongRecOn with
  | _ u ih =>
    by_cases h : u < b
    · obtain ⟨d1, d2⟩ := hexD_dig (d := u) (by omega)
      rw [basL_one h]
      refine ⟨fun c hc => ?_, ?_, by simp⟩
      · obtain rfl := List.mem_singleton.1 hc
        unfold hexB; simpa using d2
      · show 0 * (b : Int) + digI _ = _
        rw [d1]; omega
    · have hm : u % b < b := Nat.mod_lt _ (by omega)
      obtain ⟨d1, d2⟩ := hexD_dig (d := u % b) (by omega)
      obtain ⟨i1, i2, i3⟩ := ih (u / b) (Nat.div_lt_self (by omega) (by omega))
      rw [basL_more hb2 (by omega)]
      refine ⟨fun c hc => ?_, ?_, by simp⟩
      · rcases List.mem_append.1 hc with hc | hc
        · exact i1 c hc
        · obtain rfl := List.mem_singleton.1 hc
          unfold hexB; simpa using d2
      · rw [valFrom_snoc, i2, d1]
        have := Nat.div_add_mod u b
        rw [Nat.mul_comm] at this
        exact_mod_cast this
theorem bas_back {b : Nat} (hb2 : 2 ≤ b) (hb : b ≤ 16) (n : Int) : U (valFrom b 0 (basL b (U n).toNat)) = U n := by
  obtain ⟨-, h, -⟩ := bas_hex hb2 hb (U n).toNat
  have h1 := U_lo n
  rw [h, show (((U n).toNat : Nat) : Int) = U n by omega, U_U]
end Go.Proofs.YtfeedppodffheaaDoor
