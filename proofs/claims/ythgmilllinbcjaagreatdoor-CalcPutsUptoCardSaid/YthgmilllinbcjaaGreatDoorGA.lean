/- What a layer's texts lean on that calls no function of Go's library: the library's imports, rows of octets of the call's own, texts. No conditions. Plain mathematics of numbers of 64 bits: what a digit is worth, the number that digits tell in a base, digits of a number, powers, signs. Contracts of number.worth, read, spelt, Literal: each returns what the plain mathematics says; the world is as it was. No conditions but the size of a string. Contracts of number.spelt, Literal, size: each returns what the plain mathematics says; the world is as it was. No conditions but the size of a string and that an int is one. Contracts of package octets' letter, digit, every, Name, where a layer calls Name alone: each returns what a plain Lean function on octets says, and leaves the world as it was. No conditions but the size of a string. Contract of number.Print: it returns the number's digits, a sign ahead of them where it is below 0; of what was in memory nothing has turned. No conditions but that an int is one. Contract of number.Power: it returns a to the b, modulo 2 to the 64, or, of a b below 0, a fault; the world is as it was. No conditions but that b is an int. -/
import Derived.Test.YthgmilllinbcjaaGreatDoorRows
import Derived.WalkKit
import Derived.ProofKit
import Derived.Outline
import Derived.Deep.QuietTactic
import Derived.BigQuiet
import Derived.Lib.Hide
import Derived.Below
import Derived.OneCell
import Derived.Lib.AppendStr
import Derived.WalkSpells
import Derived.WalkLawsBesides
import Derived.PlainAid
import Derived.Laws.Slices
import Derived.Lib.BufferMore
import Derived.Lib.BufferWrite
import Derived.Test.YthgmilllinbcjaaGreatDoorShelf
namespace Go.Proofs.YthgmilllinbcjaaGreatDoor
open Go.RowKit
open Go.Lib (hid)

theorem u8_toNat_cast (c : UInt8) : (((c.toNat : Nat) : Int)).toNat.toUInt8 = c := by simp
theorem toList_data (s : ByteArray) : s.toList = s.data.toList := Lib.toList_data s
theorem len_toList (s : ByteArray) : s.data.toList.length = s.size := by rw [Array.length_toList]; rfl
theorem getElem_toList (s : ByteArray) (k : Nat) (h : k < s.size) : s.data.toList[k]'(by simpa using h) = s[k] := rfl
theorem info_u8 : (Tryz.prog.info? 5).map (fun i => (i.zero, i.size, i.bytes)) = some (some (.int .u8 0), 1, 1) := by kernel_rfl

def u8 (c : UInt8) : Value := .int .u8 c.toNat
theorem own_slice {w : World} {N e k n : Nat} {v : Value} {xs : List Value} (h : w.ownsRow N e k v n xs) : ∃ ao n' cap, v = .slice ao n' cap := by
  rcases h.2 with ⟨hv, _⟩ | ⟨g, cap, cur, hv, _⟩
  · exact ⟨_, _, _, hv⟩
  · exact ⟨_, _, _, hv⟩

theorem take_snoc (s : ByteArray) (k : Nat) (h : k < s.size) : s.data.toList.take (k + 1) = s.data.toList.take k ++ [s[k]] := by
  rw [List.take_succ_eq_append_getElem (by simpa using h)]; rfl

theorem conv_own {w : World} {N g n cap : Nat} {l : List UInt8} (h : w.ownsRow N 5 1 (.slice (some ⟨g, 0, none⟩) n cap) n (l.map u8)) :
    (convert 104 9 (.slice (some ⟨g, 0, none⟩) n cap)).run Tryz.prog w = .ok (.string ⟨l.toArray⟩) w := by
  have hn : l.length = n := by have := h.1; simpa using this
  subst hn
  refine run_convert_bytes_back (P := Tryz.prog) w 104 9 5 ⟨g, 0, none⟩ cap l Tryz.underlying104 Tryz.underlying5 Tryz.underlying9 (fun j hj => ?_)
  exact h.cells (g := g) rfl j _ (by simp [hj, u8])

theorem u8_ne {c : UInt8} {n : Nat} (h : c ≠ n.toUInt8) : ((c.toNat : Int) == (n : Int)) = false := by
  have h2 : c.toNat ≠ n := fun e => h (by rw [← e]; simp)
  simp; omega

theorem own_snoc {w : World} {N : Nat} {v : Value} {l : List UInt8} {c : UInt8} (h : w.ownsRow N 5 1 v (l.length + 1) (l.map u8 ++ [.int .u8 c.toNat])) : w.ownsRow N 5 1 v (l ++ [c]).length ((l ++ [c]).map u8) := by
  simpa [u8] using h

theorem conv_any {w : World} {N : Nat} {v : Value} {l : List UInt8} (h : w.ownsRow N 5 1 v l.length (l.map u8)) :
    (convert 104 9 v).run Tryz.prog w = .ok (.string ⟨l.toArray⟩) w := by
  rcases h.2 with ⟨rfl, h0⟩ | ⟨g, cap, cur, rfl, _⟩
  · obtain rfl := List.eq_nil_of_length_eq_zero h0
    rw [run_convert_bytes_string w 104 9 5 none 0 0 Tryz.underlying104 Tryz.underlying5 Tryz.underlying9]
    rfl
  · exact conv_own h

theorem below_drewN {B : Nat} {a w : World} (h : Below B a w) (n : Nat) : Below B a (w.drewN n) := ⟨h.os, h.tape, h.output, h.size, h.block⟩
theorem grown_of_below {w w' : World} (h : Below w.heap.size w w') (row : Option Nat) : w.grownBy w' row := ⟨h.os, h.tape, h.output, h.size, fun i hi _ => h.block i hi⟩
theorem own_below {w w' : World} {N e k n : Nat} {v : Value} {xs : List Value} (h : w.ownsRow N e k v n xs) (hb : Below w.heap.size w w') : w'.ownsRow N e k v n xs := by
  refine h.kept (grown_of_below hb none) ?_
  cases v.ownBlock
  · exact .inl rfl
  · exact .inr (by simp)
theorem cell_below {w w' : World} {a : Addr} {v : Value} (hb : Below w.heap.size w w') (h : w.cell? a = some v) : w'.cell? a = some v :=
  (hb.cell (World.block_lt_of_cell? w a h)).trans h
end Go.Proofs.YthgmilllinbcjaaGreatDoor
namespace Go.Proofs.YthgmilllinbcjaaGreatDoor
open Go.RowKit
open Go.Lib (hid)

def digI (c : Int) : Int := if 48 ≤ c ∧ c ≤ 57 then c - 48 else if 97 ≤ c ∧ c ≤ 102 then c - 97 + 10 else if 65 ≤ c ∧ c ≤ 70 then c - 65 + 10 else 16
theorem digI_lo (c : Int) : 0 ≤ digI c ∧ digI c ≤ 16 := by unfold digI; split <;> (try split) <;> (try split) <;> omega
def goodL (b : Int) (l : List UInt8) : Bool := l.all fun c => decide (digI c.toNat < b)
def valFrom (b : Int) : Int → List UInt8 → Int
  | n, [] => n
  | n, c :: r => valFrom b (n * b + digI c.toNat) r
/-- Modulo 2 to the 64. -/
def U (x : Int) : Int := x % 18446744073709551616
theorem U_wrap (x : Int) : IntKind.u64.wrap x = U x := IntKind.wrap_u64 x
theorem U_lo (x : Int) : 0 ≤ U x ∧ U x ≤ 18446744073709551615 := by unfold U; omega
theorem U_U (x : Int) : U (U x) = U x := by unfold U; omega
theorem U_in {x : Int} (h0 : 0 ≤ x) (h1 : x ≤ 18446744073709551615) : U x = x := by unfold U; omega
theorem U_add (x y : Int) : U (U x + y) = U (x + y) := by unfold U; omega
theorem U_mul (x y : Int) : U (U x * y) = U (x * y) := by unfold U; rw [Int.mul_emod, Int.emod_emod, ← Int.mul_emod]
theorem U_mul_r (x y : Int) : U (x * U y) = U (x * y) := by rw [Int.mul_comm, U_mul, Int.mul_comm]
theorem U_step (n b d : Int) : U (U (U n * b) + d) = U (n * b + d) := by rw [U_add, ← U_add (U n * b), U_mul, U_add]
theorem wrap64_U (x : Int) : wrap64 (U x) = wrap64 x := by unfold wrap64 U; omega
theorem wrap64_congr {x y : Int} (h : U x = U y) : wrap64 x = wrap64 y := by rw [← wrap64_U x, h, wrap64_U]
theorem U_wrap64 (x : Int) : U (wrap64 x) = U x := by unfold wrap64 U; omega
theorem wrap64_mul (x y : Int) : wrap64 (wrap64 x * y) = wrap64 (x * y) := wrap64_congr (by rw [← U_mul (wrap64 x), U_wrap64, U_mul])
theorem wrap64_id {n : Int} (h0 : -9223372036854775808 ≤ n) (h1 : n ≤ 9223372036854775807) : wrap64 n = n := by unfold wrap64; omega

theorem valFrom_append (b : Int) : ∀ (l m : List UInt8) (n : Int), valFrom b n (l ++ m) = valFrom b (valFrom b n l) m
  | [], _, _ => rfl
  | _ :: r, m, _ => valFrom_append b r m _
theorem valFrom_snoc (b : Int) (l : List UInt8) (c : UInt8) (n : Int) : valFrom b n (l ++ [c]) = valFrom b n l * b + digI c.toNat := by rw [valFrom_append]; rfl
theorem valFrom_lin (b : Int) : ∀ (l : List UInt8) (n : Int), valFrom b n l = n * b ^ l.length + valFrom b 0 l
  | [], n => by simp [valFrom]
  | c :: r, n => by
    rw [valFrom, valFrom, valFrom_lin b r (n * b + digI c.toNat), valFrom_lin b r (0 * b + digI c.toNat), List.length_cons, Int.pow_succ, Int.zero_mul, Int.zero_add, Int.add_mul, Int.mul_assoc, Int.mul_comm b, Int.add_assoc]
theorem valFrom_cons (b : Int) (c : UInt8) (l : List UInt8) : valFrom b 0 (c :: l) = digI c.toNat * b ^ l.length + valFrom b 0 l := by
  rw [valFrom, valFrom_lin, Int.zero_mul, Int.zero_add]

/-- What read tells. -/
def readL (b : Int) (l : List UInt8) : Int × Bool := if goodL b l then (U (valFrom b 0 l), !l.isEmpty) else (0, false)

def digB (c : UInt8) : Bool := decide (48 ≤ c.toNat ∧ c.toNat ≤ 57)
end Go.Proofs.YthgmilllinbcjaaGreatDoor
namespace Go.Proofs.YthgmilllinbcjaaGreatDoor
open Go.RowKit
open Go.Lib (hid)

theorem ret_int {k : IntKind} {a b : Int} (h : a = b) : Ending.returned (.int k a) = .returned (.int k b) := by rw [h]

set_option maxHeartbeats 800000 in
theorem worth_any (c : Int) (h0 : 0 ≤ c) (h9 : c ≤ 255) (w : World) :
    Calls Tryz.prog 133 #[.int .u8 c] w fun e w' => e = .returned (.int .u64 (digI c)) ∧ w = w' := by
  by_cases h1 : 48 ≤ c <;> by_cases h2 : c ≤ 57 <;> by_cases h3 : 97 ≤ c <;> by_cases h4 : c ≤ 102 <;> by_cases h5 : 65 ≤ c <;> by_cases h6 : c ≤ 70
  all_goals
    first
    | (exfalso; omega)
    | (have H : Hid (digI c = if 48 ≤ c ∧ c ≤ 57 then c - 48 else if 97 ≤ c ∧ c ≤ 102 then c - 97 + 10 else if 65 ≤ c ∧ c ≤ 70 then c - 65 + 10 else 16) := hid rfl
       go_enter Tryz.func133, Tryz.ntmps133
       go_wp2
       go_ret
       exact ⟨ret_int (by rw [H.out]; (repeat' split) <;> omega), rfl⟩)

set_option maxHeartbeats 1000000 in
theorem read_any (b : Int) (s : ByteArray) (w : World) (hs : s.size ≤ maxLen) :
    Calls Tryz.prog 123 #[.string s, .int .u64 b] w fun e w' => e = .returned (.tuple #[.int .u64 (readL b s.data.toList).1, .bool (readL b s.data.toList).2]) ∧ w = w' := by
  unfold maxLen at hs
  go_enter Tryz.func123, Tryz.ntmps123
  go_wp2
  go_loop [4, 10] (fun n i => ∃ (k : Nat), k ≤ s.size ∧ i = .int .i64 k ∧ n = .int .u64 (U (valFrom b 0 (s.data.toList.take k))) ∧ Hid (goodL b (s.data.toList.take k) = true)) (fun _ i => s.size - (intOf i).toNat)
  case atStart => exact ⟨0, Nat.zero_le _, rfl, rfl, hid rfl⟩
  case round =>
    obtain ⟨k, hk, rfl, rfl, HG⟩ := hrel
    obtain ⟨n, hn⟩ : ∃ n, U (valFrom b 0 (s.data.toList.take k)) = n := ⟨_, rfl⟩
    rw [hn]
    have hn0 : 0 ≤ n ∧ n ≤ 18446744073709551615 := by rw [← hn]; exact U_lo _
    by_cases hlt : k < s.size
    · have cD := fun W => worth_any (s[k].toNat : Int) (by omega) (by have := s[k].toNat_lt; omega) W
      have hlo := digI_lo (s[k].toNat : Int)
      obtain ⟨d, hdd⟩ : ∃ d, digI (s[k].toNat : Int) = d := ⟨_, rfl⟩
      rw [hdd] at cD hlo
      have HT : Hid (s.data.toList.take (k + 1) = s.data.toList.take k ++ [s[k]]) := hid (take_snoc s k hlt)
      have HDD := hid hdd
      have HN := hid hn
      clear hn hdd
      by_cases h8 : b ≤ d
      · have HF : Hid (readL b s.data.toList = (0, false)) := hid (by
          unfold readL
          rw [if_neg]
          rw [show s.data.toList = s.data.toList.take (k + 1) ++ s.data.toList.drop (k + 1) from (List.take_append_drop _ _).symm, HT.out]
          unfold goodL
          simp only [List.all_append, List.all_cons, HDD.out]
          simp; intro _ hc; omega)
        go_wp2_with (go_at_call 133; refine (cD _).mono ?_; rintro e w' ⟨rfl, rfl⟩)
        go_ret2
        exact ⟨by rw [HF.out]; rfl, rfl⟩
      · have g2 : decide (b ≤ d) = false := by simpa using h8
        have HG2 : Hid (goodL b (s.data.toList.take (k + 1)) = true) := hid (by
          have h1 := HG.out
          rw [HT.out]; unfold goodL at h1 ⊢
          simp only [List.all_append, List.all_cons, h1, HDD.out]; simp; omega)
        have HV : Hid (U (valFrom b 0 (s.data.toList.take (k + 1))) = U (U (n * b) + d)) := hid (by
          rw [HT.out, valFrom_snoc, HDD.out, ← HN.out, U_step])
        go_wp2_with (go_at_call 133; refine (cD _).mono ?_; rintro e w' ⟨rfl, rfl⟩)
        go_round
        case rel => exact ⟨k + 1, by omega, by go_num, by rw [HV.out]; simp only [U_wrap], HG2⟩
        case measure => simp [intOf]; omega
    · obtain rfl : k = s.size := by omega
      have HF : Hid (readL b s.data.toList = (n, !s.data.toList.isEmpty)) := hid (by
        have ht : s.data.toList.take s.size = s.data.toList := List.take_of_length_le (by rw [len_toList]; exact Nat.le_refl _)
        have h1 := HG.out
        rw [ht] at h1 hn
        unfold readL
        rw [if_pos h1, hn])
      clear hn HG
      go_wp2
      go_ret2
      refine ⟨?_, rfl⟩
      rw [HF.out, ← toList_data]
      rfl
end Go.Proofs.YthgmilllinbcjaaGreatDoor
namespace Go.Proofs.YthgmilllinbcjaaGreatDoor
open Go.RowKit
open Go.Lib (hid)

def speltL : List UInt8 → List UInt8 × Int
  | c :: d :: r => if c = 48 then (if d = 120 ∨ d = 88 then (r, 16) else (d :: r, 8)) else (c :: d :: r, 10)
  | l => (l, 10)
theorem speltL_short {l : List UInt8} (h : l.length < 2) : speltL l = (l, 10) := by
  match l, h with
  | [], _ => rfl
  | [_], _ => rfl
  | _ :: _ :: _, h => simp at h; omega
theorem speltL_base (l : List UInt8) : (speltL l).2 = 10 ∨ (speltL l).2 = 16 ∨ (speltL l).2 = 8 := by
  match l with
  | [] => simp [speltL]
  | [_] => simp [speltL]
  | c :: d :: r => rw [speltL]; split
                   · split
                     · exact .inr (.inl rfl)
                     · exact .inr (.inr rfl)
                   · exact .inl rfl
theorem speltL_len (l : List UInt8) : (speltL l).1.length ≤ l.length := by
  match l with
  | [] => simp [speltL]
  | [_] => simp [speltL]
  | c :: d :: r => rw [speltL]; split
                   · split
                     · simp only [List.length_cons]; omega
                     · simp only [List.length_cons]; omega
                   · exact Nat.le_refl _
theorem ba_of_list (s : ByteArray) : (⟨s.data.toList.toArray⟩ : ByteArray) = s := by cases s; simp
theorem extract_from (s : ByteArray) (k : Nat) : s.extract k s.size = ⟨(s.data.toList.drop k).toArray⟩ := by
  cases s with
  | mk d =>
    rw [ByteArray.extract_mk]
    congr 1
    rw [← Array.toList_inj]
    simp [ByteArray.size]
    exact List.take_of_length_le (by simp)

theorem two_octets (s : ByteArray) (h : 2 ≤ s.size) : s.data.toList = s[0] :: s[1] :: s.data.toList.drop 2 := by
  have h1 : s.data.toList.drop 0 = s[0] :: s.data.toList.drop 1 := List.drop_eq_getElem_cons (by rw [len_toList]; omega)
  have h2 : s.data.toList.drop 1 = s[1] :: s.data.toList.drop 2 := List.drop_eq_getElem_cons (by rw [len_toList]; omega)
  rw [← h2, ← h1]; rfl

set_option maxHeartbeats 1000000 in
theorem spelt_any (s : ByteArray) (w : World) (hs : s.size ≤ maxLen) :
    Calls Tryz.prog 124 #[.string s] w fun e w' => e = .returned (.tuple #[.string ⟨(speltL s.data.toList).1.toArray⟩, .int .u64 (speltL s.data.toList).2]) ∧ w = w' := by
  unfold maxLen at hs
  by_cases h2 : s.size < 2
  · have HE : Hid (speltL s.data.toList = (s.data.toList, 10)) := hid (speltL_short (by rw [len_toList]; omega))
    go_enter Tryz.func124, Tryz.ntmps124
    go_wp2
    go_ret2
    exact ⟨by rw [HE.out, ba_of_list]; rfl, rfl⟩
  · have HD : Hid (s.data.toList = s[0] :: s[1] :: s.data.toList.drop 2) := hid (two_octets s (by omega))
    have h1 : s.data.toList.drop 1 = s[1] :: s.data.toList.drop 2 := List.drop_eq_getElem_cons (by rw [len_toList]; omega)
    have HX1 : Hid (s.extract 1 s.size = ⟨(s[1] :: s.data.toList.drop 2).toArray⟩) := hid (by rw [extract_from, h1])
    have HX2 : Hid (s.extract 2 s.size = ⟨(s.data.toList.drop 2).toArray⟩) := hid (extract_from s 2)
    clear h1
    have gs : decide ((s.size : Int) < 2) = false := by simp; omega
    obtain ⟨r, hr⟩ : ∃ r, s.data.toList.drop 2 = r := ⟨_, rfl⟩
    rw [hr] at HD HX1 HX2
    clear hr
    by_cases h0 : s[0] = 48
    · have g0 : ((s[0].toNat : Int) != 48) = false := by rw [h0]; rfl
      by_cases hx : s[1] = 120
      · have g1 : ((s[1].toNat : Int) == 120) = true := by rw [hx]; rfl
        have HE : Hid (speltL s.data.toList = (r, 16)) := hid (by rw [HD.out, speltL, if_pos h0, if_pos (.inl hx)])
        clear h0 hx
        go_enter Tryz.func124, Tryz.ntmps124
        go_wp2
        go_ret2
        exact ⟨by rw [HE.out, ← HX2.out]; rfl, rfl⟩
      · have g1 : ((s[1].toNat : Int) == 120) = false := u8_ne (n := 120) hx
        by_cases hX : s[1] = 88
        · have g2 : ((s[1].toNat : Int) == 88) = true := by rw [hX]; rfl
          have HE : Hid (speltL s.data.toList = (r, 16)) := hid (by rw [HD.out, speltL, if_pos h0, if_pos (.inr hX)])
          clear h0 hx hX
          go_enter Tryz.func124, Tryz.ntmps124
          go_wp2
          go_ret2
          exact ⟨by rw [HE.out, ← HX2.out]; rfl, rfl⟩
        · have g2 : ((s[1].toNat : Int) == 88) = false := u8_ne (n := 88) hX
          have HE : Hid (speltL s.data.toList = (s[1] :: r, 8)) := hid (by rw [HD.out, speltL, if_pos h0, if_neg (by simp [hx, hX])])
          clear h0 hx hX
          go_enter Tryz.func124, Tryz.ntmps124
          go_wp2
          go_ret2
          exact ⟨by rw [HE.out, ← HX1.out]; rfl, rfl⟩
    · have g0 : ((s[0].toNat : Int) != 48) = true := by have e := u8_ne (n := 48) h0; simpa [bne] using e
      have HE : Hid (speltL s.data.toList = (s.data.toList, 10)) := hid (by rw [HD.out, speltL, if_neg h0])
      clear h0
      go_enter Tryz.func124, Tryz.ntmps124
      go_wp2
      go_ret2
      exact ⟨by rw [HE.out, ba_of_list]; rfl, rfl⟩

def litL (l : List UInt8) : Int × Int := if (readL (speltL l).2 (speltL l).1).2 then (wrap64 (readL (speltL l).2 (speltL l).1).1, 0) else (0, 33)

set_option maxHeartbeats 1000000 in
theorem literal_any (s : ByteArray) (w : World) (hs : s.size ≤ maxLen) :
    Calls Tryz.prog 111 #[.string s] w fun e w' => e = .returned (.tuple #[.int .i64 (litL s.data.toList).1, .int .i64 (litL s.data.toList).2]) ∧ w = w' := by
  have cS := fun W => spelt_any s W hs
  have hb := speltL_base s.data.toList
  have hl := speltL_len s.data.toList
  rw [len_toList] at hl
  have HE : Hid (litL s.data.toList = if (readL (speltL s.data.toList).2 (speltL s.data.toList).1).2 then (wrap64 (readL (speltL s.data.toList).2 (speltL s.data.toList).1).1, 0) else (0, 33)) := hid rfl
  obtain ⟨t, ht⟩ : ∃ t, (speltL s.data.toList).1 = t := ⟨_, rfl⟩
  obtain ⟨b, hbb⟩ : ∃ b, (speltL s.data.toList).2 = b := ⟨_, rfl⟩
  rw [ht, hbb] at cS HE
  rw [hbb] at hb
  rw [ht] at hl
  have cR := fun W => read_any b ⟨t.toArray⟩ W (by show t.toArray.size ≤ maxLen; simp; omega)
  rw [show (⟨t.toArray⟩ : ByteArray).data.toList = t from by simp] at cR
  clear ht hbb hb hl
  obtain ⟨n, hn⟩ : ∃ n, (readL b t).1 = n := ⟨_, rfl⟩
  obtain ⟨g, hg⟩ : ∃ g, (readL b t).2 = g := ⟨_, rfl⟩
  rw [hn, hg] at cR HE
  clear hn hg
  cases g
  · rw [if_neg (by decide)] at HE
    go_enter Tryz.func111, Tryz.ntmps111
    go_wp2_with (first | (go_at_call 124; (with_reducible refine (cS _).mono ?_); rintro e w1 ⟨rfl, rfl⟩) | (go_at_call 123; (with_reducible refine (cR _).mono ?_); rintro e w1 ⟨rfl, rfl⟩))
    go_ret2
    exact ⟨by rw [HE.out]; rfl, rfl⟩
  · rw [if_pos rfl] at HE
    go_enter Tryz.func111, Tryz.ntmps111
    go_wp2_with (first | (go_at_call 124; (with_reducible refine (cS _).mono ?_); rintro e w1 ⟨rfl, rfl⟩) | (go_at_call 123; (with_reducible refine (cR _).mono ?_); rintro e w1 ⟨rfl, rfl⟩))
    go_ret2
    exact ⟨by rw [HE.out]; rfl, rfl⟩

set_option maxHeartbeats 1000000 in
theorem size_any (n : Int) (h0 : -9223372036854775808 ≤ n) (h1 : n ≤ 9223372036854775807) (w : World) :
    Calls Tryz.prog 79 #[.int .i64 n] w fun e w' => e = .returned (.int .u64 (if n < 0 then -n else n)) ∧ w = w' := by
  by_cases hn : n < 0
  · go_enter Tryz.func79, Tryz.ntmps79
    go_wp2
    go_ret
    exact ⟨ret_int (by simp only [IntKind.wrap_u64]; omega), rfl⟩
  · go_enter Tryz.func79, Tryz.ntmps79
    go_wp2
    go_ret
    exact ⟨rfl, rfl⟩

end Go.Proofs.YthgmilllinbcjaaGreatDoor
namespace Go.Proofs.YthgmilllinbcjaaGreatDoor
open Go.RowKit
open Go.Lib (hid)

def letterB (c : Int) : Bool := decide ((97 ≤ c ∧ c ≤ 122) ∨ (65 ≤ c ∧ c ≤ 90))
def digitB (c : Int) : Bool := decide (48 ≤ c ∧ c ≤ 57)

set_option maxHeartbeats 400000 in
theorem digit_any (c : Int) (w : World) :
    Calls Tryz.prog 92 #[.int .u8 c] w fun e w' => e = .returned (.bool (digitB c)) ∧ w = w' := by
  have hb : digitB c = (decide (48 ≤ c) && decide (c ≤ 57)) := by unfold digitB; simp
  by_cases h1 : 48 ≤ c <;> by_cases h2 : c ≤ 57
  all_goals
    have H := Lib.hid hb
    clear hb
    go_enter Tryz.func92, Tryz.ntmps92
    go_wp2
    go_ret
    exact ⟨by rw [H.out]; simp [h1, h2], rfl⟩

set_option maxHeartbeats 400000 in
theorem letter_any (c : Int) (w : World) :
    Calls Tryz.prog 91 #[.int .u8 c] w fun e w' => e = .returned (.bool (letterB c)) ∧ w = w' := by
  by_cases h1 : 97 ≤ c <;> by_cases h2 : c ≤ 122 <;> by_cases h3 : 65 ≤ c <;> by_cases h4 : c ≤ 90
  all_goals
    first
    | (exfalso; omega)
    | ((first | have H := Lib.hid (show letterB c = true from decide_eq_true (by omega)) | have H := Lib.hid (show letterB c = false from decide_eq_false (by omega)))
       go_enter Tryz.func91, Tryz.ntmps91
       go_wp2
       go_ret
       exact ⟨by rw [H.out]; rfl, rfl⟩)

/-- What a predicate on a place and an octet says of all octets of a list, the first at place k. -/
def everyL (p : Nat → UInt8 → Bool) : Nat → List UInt8 → Bool
  | _, [] => true
  | k, c :: r => p k c && everyL p (k + 1) r

theorem everyL_const (p : UInt8 → Bool) : ∀ (k : Nat) (l : List UInt8), everyL (fun _ c => p c) k l = l.all p
  | _, [] => rfl
  | k, c :: r => by rw [everyL, everyL_const p (k + 1) r]; rfl

theorem everyL_drop (p : Nat → UInt8 → Bool) (l : List UInt8) (k : Nat) (h : k < l.length) :
    everyL p k (l.drop k) = (p k l[k] && everyL p (k + 1) (l.drop (k + 1))) := by
  rw [List.drop_eq_getElem_cons h]; rfl


set_option maxHeartbeats 400000 in
theorem every_any (g : Nat) (lb : Array Value) (eg : ∀ args w, (callFunc g args).run Tryz.prog w = .ok (.enter g args) w) (p : Nat → UInt8 → Bool) (s : ByteArray) (w : World)
    (hs : s.size ≤ maxLen)
    (hp : ∀ (i : Nat) (h : i < s.size), Calls Tryz.prog g (#[.int .i64 i, .int .u8 s[i].toNat] ++ lb) w fun e w' => e = .returned (.bool (p i s[i])) ∧ w = w') :
    Calls Tryz.prog 89 #[.string s, .func (.func g) #[] lb] w fun e w' => e = .returned (.bool (everyL p 0 s.data.toList)) ∧ w = w' := by
  unfold maxLen at hs
  go_enter Tryz.func89, Tryz.ntmps89
  go_wp2
  go_loop [8] (fun i => ∃ k : Nat, k ≤ s.size ∧ i = .int .i64 k ∧ everyL p 0 s.data.toList = everyL p k (s.data.toList.drop k)) (fun i => s.size - (intOf i).toNat)
  case atStart => exact ⟨0, Nat.zero_le _, rfl, rfl⟩
  case round =>
    obtain ⟨k, hk, rfl, he⟩ := hrel
    have HE := Lib.hid he
    clear he
    by_cases hlt : k < s.size
    · have hd := everyL_drop p s.data.toList k (by simpa using hlt)
      rw [getElem_toList s k hlt] at hd
      have HD := Lib.hid hd
      clear hd
      have cS := hp k hlt
      clear hp
      cases hv : p k s[k]
      · have HV := Lib.hid hv
        rw [hv] at cS
        clear hv
        go_wp2_with (go_at_fn g; refine cS.mono ?_; rintro e W' ⟨rfl, rfl⟩)
        go_ret
        exact ⟨by rw [HE.out, HD.out, HV.out]; rfl, rfl⟩
      · have HV := Lib.hid hv
        rw [hv] at cS
        clear hv
        go_wp2_with (go_at_fn g; refine cS.mono ?_; rintro e W' ⟨rfl, rfl⟩)
        go_round
        case rel => exact ⟨k + 1, by omega, by go_num, by rw [HE.out, HD.out, HV.out]; rfl⟩
        case measure => simp [intOf]; omega
    · have hd : s.data.toList.drop k = [] := List.drop_eq_nil_of_le (by simp; omega)
      have HD := Lib.hid hd
      clear hd
      go_wp2
      go_ret
      exact ⟨by rw [HE.out, HD.out]; rfl, rfl⟩

def nameAt (i : Nat) (c : UInt8) : Bool := decide (c = 95) || letterB c.toNat || (decide (0 < i) && digitB c.toNat)

theorem nameAt_eq (i : Nat) (c : UInt8) : nameAt i c = (decide ((c.toNat : Int) = 95) || letterB c.toNat || (decide (0 < (i : Int)) && digitB c.toNat)) := by
  have h1 : decide ((c.toNat : Int) = 95) = decide (c = 95) := by rw [Bool.eq_iff_iff]; simp [← UInt8.toNat_inj]; omega
  have h2 : decide (0 < (i : Int)) = decide (0 < i) := by rw [Bool.eq_iff_iff]; simp
  rw [h1, h2]; rfl

set_option maxHeartbeats 800000 in
theorem nameFn (i : Nat) (c : UInt8) (w : World) :
    Calls Tryz.prog 90 (#[.int .i64 i, .int .u8 c.toNat] ++ #[]) w fun e w' => e = .returned (.bool (nameAt i c)) ∧ w = w' := by
  have HX := hid (nameAt_eq i c)
  have c1 := fun W => letter_any c.toNat W
  have c2 := fun W => digit_any c.toNat W
  by_cases h0 : (c.toNat : Int) = 95
  · have HV : Hid (nameAt i c = true) := hid (by rw [HX.out]; simp [h0])
    have g0 : ((c.toNat : Int) == 95) = true := by simpa using h0
    clear HX h0
    go_enter Tryz.func90, Tryz.ntmps90
    go_wp2_with fail
    go_ret
    exact ⟨by rw [HV.out]; rfl, rfl⟩
  · have g0 : ((c.toNat : Int) == 95) = false := by simpa using h0
    have HG := hid h0
    clear h0
    cases h1 : letterB c.toNat
    · by_cases h3 : 0 < i
      · have HV : Hid (nameAt i c = digitB c.toNat) := hid (by rw [HX.out]; simp [HG.out, h1, h3])
        clear HX HG
        rw [h1] at c1
        clear h1
        go_enter Tryz.func90, Tryz.ntmps90
        go_wp2_with (first | (go_at_call 91; refine (c1 _).mono ?_; rintro e w' ⟨rfl, rfl⟩) | (go_at_call 92; refine (c2 _).mono ?_; rintro e w' ⟨rfl, rfl⟩))
        go_ret
        exact ⟨by rw [HV.out]; rfl, rfl⟩
      · have HV : Hid (nameAt i c = false) := hid (by rw [HX.out]; simp [HG.out, h1]; omega)
        clear HX HG
        rw [h1] at c1
        clear h1
        go_enter Tryz.func90, Tryz.ntmps90
        go_wp2_with (go_at_call 91; refine (c1 _).mono ?_; rintro e w' ⟨rfl, rfl⟩)
        go_ret
        exact ⟨by rw [HV.out]; rfl, rfl⟩
    · have HV : Hid (nameAt i c = true) := hid (by rw [HX.out]; simp [h1])
      clear HX HG
      rw [h1] at c1
      clear h1
      go_enter Tryz.func90, Tryz.ntmps90
      go_wp2_with (go_at_call 91; refine (c1 _).mono ?_; rintro e w' ⟨rfl, rfl⟩)
      go_ret
      exact ⟨by rw [HV.out]; rfl, rfl⟩


def everyN (l : List UInt8) : Bool := everyL nameAt 0 l
def nameL (l : List UInt8) : Bool := !l.isEmpty && decide (l.length ≤ 64) && everyN l
theorem every_name (s : ByteArray) (w : World) (hs : s.size ≤ maxLen) :
    Calls Tryz.prog 89 #[.string s, .func (.func 90) #[] #[]] w fun e w' => e = .returned (.bool (everyN s.data.toList)) ∧ w = w' :=
  every_any 90 #[] (enters_of Tryz.func90 (by kernel_rfl) rfl) nameAt s w hs (fun i _ => nameFn i _ w)


theorem toList_empty (s : ByteArray) (h : s.data.toList = []) : s = .empty := by
  cases s with | mk d => cases d with | mk l => simp at h; subst h; rfl

set_option maxHeartbeats 400000 in
theorem name_any (s : ByteArray) (w : World) (hs : s.size ≤ maxLen) :
    Calls Tryz.prog 68 #[.string s] w fun e w' => e = .returned (.bool (nameL s.data.toList)) ∧ w = w' := by
  have cE := fun W => every_name s W hs
  unfold maxLen at hs
  by_cases h0 : s.data.toList = []
  · obtain rfl := toList_empty s h0
    go_enter Tryz.func68, Tryz.ntmps68
    go_wp2_with fail
    go_ret
    exact ⟨rfl, rfl⟩
  · have hz : s.data.toList.isEmpty = false := by simpa using h0
    have hl := len_toList s
    have g1 : ¬ s.toList = [] := by rw [toList_data]; exact h0
    have g2 : s.toList.isEmpty = false := by rw [toList_data]; exact hz
    by_cases h64 : s.size ≤ 64
    · have HV : Hid (nameL s.data.toList = everyN s.data.toList) := hid (by unfold nameL; rw [hz, hl, decide_eq_true h64]; rfl)
      clear h0 hz hl
      go_enter Tryz.func68, Tryz.ntmps68
      go_wp2_with (go_at_call 89; refine (cE _).mono ?_; rintro e w' ⟨rfl, rfl⟩)
      go_ret
      exact ⟨by rw [HV.out]; rfl, rfl⟩
    · have HV : Hid (nameL s.data.toList = false) := hid (by unfold nameL; rw [hz, hl, decide_eq_false h64]; rfl)
      clear h0 hz hl
      go_enter Tryz.func68, Tryz.ntmps68
      go_wp2_with fail
      go_ret
      exact ⟨by rw [HV.out]; rfl, rfl⟩

end Go.Proofs.YthgmilllinbcjaaGreatDoor
namespace Go.Proofs.YthgmilllinbcjaaGreatDoor
open Go.RowKit
open Go.Lib (hid)

/-- A number's decimal digits. -/
def decD (u : Nat) : List UInt8 := if 10 ≤ u then decD (u / 10) ++ [(u % 10 + 48).toUInt8] else [(u + 48).toUInt8]
termination_by u
decreasing_by omega
theorem decD_one {u : Nat} (h : u < 10) : decD u = [(u + 48).toUInt8] := by rw [decD, if_neg (by omega)]
theorem decD_more {u : Nat} (h : 10 ≤ u) : decD u = decD (u / 10) ++ [(u % 10 + 48).toUInt8] := by rw [decD, if_pos h]
/-- What Print tells. -/
def printL (n : Int) : List UInt8 := if n < 0 then 45 :: decD n.natAbs else decD n.natAbs
theorem drop_set {cur : Array Value} {a : Nat} {v : Value} (h : a < cur.size) : (cur.setIfInBounds a v).toList.drop a = v :: cur.toList.drop (a + 1) := by
  rw [Array.toList_setIfInBounds, List.drop_eq_getElem_cons (by simpa using h), List.getElem_set_self, List.drop_set_of_lt (by omega)]
theorem cell_of {w : World} {g i : Nat} {cur : Array Value} {t : TypeId} (h : w.heap[g]? = some (.cells cur t (0, 0))) (hi : i < cur.size) : w.cell? ⟨g, i, none⟩ = some cur[i] := by
  simp [World.cell?, h, hi]
theorem frozen_of {w : World} {g i : Nat} {cur : Array Value} {t : TypeId} (h : w.heap[g]? = some (.cells cur t (0, 0))) : w.frozen? ⟨g, i, none⟩ = false := by
  simp [World.frozen?, h]
theorem dig_val (r : Nat) : Value.int .u8 (48 + (r : Int) % 10) = u8 (r % 10 + 48).toUInt8 := by
  unfold u8
  congr 1
  have : (r % 10 + 48).toUInt8.toNat = r % 10 + 48 := by rw [Nat.toUInt8_eq, UInt8.toNat_ofNat']; omega
  rw [this]; omega
theorem below_setRow {B g : Nat} {w0 w : World} (hb : Below B w0 w) (hBg : B ≤ g) (cs : Array Value) : Below B w0 (w.setRow g cs) :=
  ⟨hb.os, hb.tape, hb.output, by rw [size_setRow]; exact hb.size, fun i hi => (setRow_other w g i cs (by omega)).trans (hb.block i hi)⟩
theorem World.heap_alloc_self {w : World} {o : Obj} : (w.alloc o).heap[w.heap.size]? = some o := by
  show (w.heap.push o)[w.heap.size]? = some o
  simp
theorem sl_arr (g a : Nat) (x : Int) (hx : x = (a : Int)) (ha : a < 20) (W : World) : (Instr.sliceAt 119 (.pointer (some ⟨g, 0, none⟩)) (some (.int .i64 x)) none none).run Tryz.prog W = .ok (.slice (some ⟨g, a, none⟩) (20 - a) (20 - a)) W := by
  have hal : Tryz.prog.arrayLen 119 = 20 := by simp [Program.arrayLen, Tryz.underlying119]
  subst hx
  rw [run_sliceAt_array_l W 119 ⟨g, 0, none⟩ (by simp [Program.arrayLen, Program.elem, Tryz.underlying119]) .i64 (a : Int) (by omega) (by rw [hal]; omega)]
  have hne : ¬ (20 = a) := by omega
  have e : (⟨g, 0, none⟩ : Addr).add a = ⟨g, a, none⟩ := by
    unfold Addr.add
    split
    · rename_i h; rw [h]
    · simp
  go_simp
theorem info_u8s : (Tryz.prog.info? 5).map (·.size) = some 1 := by kernel_rfl
def withSign (a : Nat) (cur : Array Value) : Array Value := (cur.toList.take a ++ Lib.byteCells [45] ++ cur.toList.drop (a + 1)).toArray
theorem withSign_size {a : Nat} {cur : Array Value} (hs : cur.size = 20) (ha : a < 20) : (withSign a cur).size = 20 := by
  simp [withSign, Lib.byteCells_length]; omega
theorem withSign_drop {a : Nat} {cur : Array Value} (hs : cur.size = 20) (ha : a < 20) : (withSign a cur).toList.drop a = u8 45 :: cur.toList.drop (a + 1) := by
  unfold withSign
  rw [List.toList_toArray, List.append_assoc, List.drop_append_of_le_length (by simp; omega), List.drop_of_length_le (by simp; omega), List.nil_append]
  rfl
def zeros20 : Array Value := #[.int .u8 0, .int .u8 0, .int .u8 0, .int .u8 0, .int .u8 0, .int .u8 0, .int .u8 0, .int .u8 0, .int .u8 0, .int .u8 0, .int .u8 0, .int .u8 0, .int .u8 0, .int .u8 0, .int .u8 0, .int .u8 0, .int .u8 0, .int .u8 0, .int .u8 0, .int .u8 0]
theorem conv_arr {w : World} {g a : Nat} {cur : Array Value} {t : TypeId} {l : List UInt8} (h : w.heap[g]? = some (.cells cur t (0, 0))) (hl : a + l.length = 20) (hs : cur.size = 20) (hd : cur.toList.drop a = l.map u8) :
    (convert 104 9 (.slice (some ⟨g, a, none⟩) (20 - a) (20 - a))).run Tryz.prog w = .ok (.string ⟨l.toArray⟩) w := by
  have e : 20 - a = l.length := by omega
  rw [e]
  refine run_convert_bytes_back (P := Tryz.prog) w 104 9 5 ⟨g, a, none⟩ _ l Tryz.underlying104 Tryz.underlying5 Tryz.underlying9 (fun j hj => ?_)
  rw [show (⟨g, a, none⟩ : Addr).add j = ⟨g, a + j, none⟩ by simp [Addr.add]]
  rw [cell_of h (show a + j < cur.size by omega)]
  have h2 : (cur.toList.drop a)[j]? = (l.map u8)[j]? := by rw [hd]
  rw [List.getElem?_drop, Array.getElem?_toList, Array.getElem?_eq_getElem (by omega)] at h2
  rw [h2]
  simp [hj, u8]
theorem dec_step {u r : Nat} {ds : List UInt8} (h : decD u = (if 0 < r then decD r else []) ++ ds) (hr : 0 < r) : decD u = (if 0 < r / 10 then decD (r / 10) else []) ++ ((r % 10 + 48).toUInt8 :: ds) := by
  rw [h, if_pos hr]
  by_cases h10 : r < 10
  · rw [decD_one h10, if_neg (by omega), Nat.mod_eq_of_lt h10]; rfl
  · rw [decD_more (by omega), if_pos (by omega)]; simp
theorem dec_first (u : Nat) : decD u = (if 0 < u / 10 then decD (u / 10) else []) ++ ((u % 10 + 48).toUInt8 :: []) := by
  by_cases h10 : u < 10
  · rw [decD_one h10, if_neg (by omega), Nat.mod_eq_of_lt h10]; rfl
  · rw [decD_more (by omega), if_pos (by omega)]

set_option maxHeartbeats 1000000 in
theorem print_any (n : Int) (h0 : -9223372036854775808 ≤ n) (h1 : n ≤ 9223372036854775807) (w : World) :
    Calls Tryz.prog 54 #[.int .i64 n] w fun e w' => e = .returned (.string ⟨(printL n).toArray⟩) ∧ Below w.heap.size w w' := by
  have cS := fun W => size_any n h0 h1 W
  obtain ⟨u, hu⟩ : ∃ u : Nat, n.natAbs = u := ⟨_, rfl⟩
  rw [show (if n < 0 then -n else n) = (u : Int) by split <;> omega] at cS
  have hu64 : u ≤ 9223372036854775808 := by omega
  have HI : Hid (printL n = if n < 0 then 45 :: decD u else decD u) := hid (by unfold printL; rw [hu])
  clear hu
  go_enter Tryz.func54, Tryz.ntmps54
  go_wp2_with (go_at_call 79; refine (cS _).mono ?_; rintro e w1 ⟨rfl, rfl⟩)
  go_loopw [4, 5] (fun x y wr => ∃ (a r : Nat) (ds : List UInt8) (cur : Array Value), x = .int .u64 r ∧ y = .int .i64 a ∧ 1 ≤ a ∧ a + ds.length = 20 ∧ r ≤ 9223372036854775808 ∧ cur.size = 20 ∧ wr.heap[w.heap.size]? = some (.cells cur 119 (0, 0)) ∧ Below w.heap.size w wr ∧ Hid (r < 10 ^ (a - 1)) ∧ Hid (cur.toList.drop a = ds.map u8) ∧ Hid (a = 20 ∧ r = u ∨ a < 20 ∧ decD u = (if 0 < r then decD r else []) ++ ds)) (fun _ y _ => (intOf y).toNat)
  case atStart =>
    refine ⟨20, u, [], zeros20, rfl, rfl, by omega, rfl, hu64, rfl, ?_, ?_, hid (by omega), hid rfl, hid (.inl ⟨rfl, rfl⟩)⟩
    · exact World.heap_alloc_self
    · exact (Below.refl _ _).alloc (Nat.le_refl _) _
  case round =>
    obtain ⟨a, r, ds, cur, rfl, rfl, ha1, ha, hr, hsz, hc, hb, HP, HD, HX⟩ := hrel
    by_cases hgo : a = 20 ∨ 0 < r
    · have hcell := cell_of hc (show a - 1 < cur.size by omega)
      have hfr := frozen_of (i := a - 1) hc
      have hcc := hid hc
      clear hc
      by_cases h20 : a = 20
      · subst h20
        go_wp2
        go_round
        case rel =>
          have hd := drop_set (v := .int .u8 (48 + (r : Int) % 10)) (show 19 < cur.size by omega)
          have e20 : ds = [] := List.eq_nil_of_length_eq_zero (by omega)
          subst e20
          refine ⟨19, r / 10, [(r % 10 + 48).toUInt8], _, by rw [Int.natCast_ediv]; rfl, rfl, by omega, rfl, by omega, ?_, heap_setCell_same _ _ _ _ _ _ hcc.out, hb.setCell (Nat.le_refl _) _, hid ?_, hid ?_, hid (.inr ⟨by omega, ?_⟩)⟩
          · rw [Array.size_setIfInBounds]; exact hsz
          · have := HP.out; simp only [Nat.add_one_sub_one] at this; omega
          · rw [hd, dig_val, List.drop_of_length_le (by rw [Array.length_toList]; omega)]; rfl
          · rcases HX.out with ⟨_, e⟩ | ⟨e, _⟩
            · rw [e]; exact dec_first u
            · omega
        case measure => simp [intOf]
      · have hr0 : 0 < r := by omega
        have g1 : ((a : Int) == 20) = false := by simp; omega
        go_wp2
        go_round
        case rel =>
          have hd := drop_set (v := .int .u8 (48 + (r : Int) % 10)) (show a - 1 < cur.size by omega)
          have hp : r < 10 ^ (a - 1) := HP.out
          have ha2 : 2 ≤ a := by
            by_cases h : a = 1
            · subst h; simp at hp; omega
            · omega
          refine ⟨a - 1, r / 10, (r % 10 + 48).toUInt8 :: ds, _, by rw [Int.natCast_ediv]; rfl, by go_num, by omega, by simp; omega, by omega, ?_, heap_setCell_same _ _ _ _ _ _ hcc.out, hb.setCell (Nat.le_refl _) _, hid ?_, hid ?_, hid (.inr ⟨by omega, ?_⟩)⟩
          · rw [Array.size_setIfInBounds]; exact hsz
          · rw [show a - 1 = (a - 1 - 1) + 1 by omega, Nat.pow_succ] at hp; omega
          · rw [hd, dig_val, show a - 1 + 1 = a by omega, HD.out]; rfl
          · rcases HX.out with ⟨e, _⟩ | ⟨_, e⟩
            · omega
            · exact dec_step e hr0
        case measure => simp [intOf]; omega
    · have hr0 : r = 0 := by omega
      subst hr0
      have ha20 : a < 20 := by omega
      have g1 : ((a : Int) == 20) = false := by simp; omega
      have HDD : Hid (decD u = ds) := hid (by
        rcases HX.out with ⟨e, _⟩ | ⟨_, e⟩
        · omega
        · simpa using e)
      by_cases hn : n < 0
      · have hsl := sl_arr w.heap.size (a - 1) ((a : Int) - 1) (by omega) (by omega)
        have hcp := Lib.run_copy_row_string (P := Tryz.prog) wr 104 9 3 5 w.heap.size (a - 1) (20 - (a - 1)) (20 - (a - 1)) ⟨#[45]⟩ cur 119 Tryz.underlying104 info_u8s hc (by show 1 ≤ _; omega) (by show a - 1 + 1 ≤ _; omega)
        have hcv := conv_arr (l := 45 :: ds) (setRow_heap wr w.heap.size cur (withSign (a - 1) cur) _ _ hc) (show a - 1 + (45 :: ds).length = 20 by simp; omega) (withSign_size hsz (by omega)) (by rw [withSign_drop hsz (by omega), show a - 1 + 1 = a by omega, HD.out]; rfl)
        change _ = Result.ok (goInt 1) (wr.setRow w.heap.size (withSign (a - 1) cur)) at hcp
        have HB := hid (below_setRow hb (Nat.le_refl _) (withSign (a - 1) cur))
        have HF : Hid (printL n = 45 :: ds) := hid (by rw [HI.out, if_pos hn, HDD.out])
        clear hc
        go_wp2
        go_ret
        exact ⟨by rw [HF.out]; rfl, HB.out⟩
      · have hsl := sl_arr w.heap.size a (a : Int) rfl (by omega)
        have hcv := conv_arr hc ha hsz HD.out
        have HF : Hid (printL n = ds) := hid (by rw [HI.out, if_neg hn, HDD.out])
        clear hc
        go_wp2
        go_ret
        exact ⟨by rw [HF.out]; rfl, hb⟩
end Go.Proofs.YthgmilllinbcjaaGreatDoor
namespace Go.Proofs.YthgmilllinbcjaaGreatDoor
open Go.RowKit
open Go.Lib (hid)

theorem pow_half (x : Int) (k : Nat) : (x * x) ^ (k / 2) * x ^ (k % 2) = x ^ k := by
  have e : x * x = x ^ 2 := by rw [Int.pow_succ, Int.pow_succ, Int.pow_zero, Int.one_mul]
  rw [e, ← Int.pow_mul, ← Int.pow_add]
  congr 1; omega
theorem U_pow (x : Int) : ∀ k : Nat, U ((U x) ^ k) = U (x ^ k)
  | 0 => by rw [Int.pow_zero, Int.pow_zero]
  | k + 1 => by rw [Int.pow_succ, Int.pow_succ, ← U_mul, U_pow x k, U_mul, U_mul_r]

set_option maxHeartbeats 1000000 in
theorem power_any (a : Int) (b : Nat) (hb : (b : Int) ≤ 9223372036854775807) (w : World) :
    Calls Tryz.prog 75 #[.int .i64 a, .int .i64 b] w fun e w' => e = .returned (.tuple #[.int .i64 (wrap64 (a ^ b)), .int .i64 0]) ∧ w = w' := by
  have HA : Hid (U (a ^ b) = U (1 * U a ^ b)) := hid (by rw [Int.one_mul, U_pow])
  have hU := U_lo a
  have hw : IntKind.u64.wrap a = U a := U_wrap a
  obtain ⟨ua, hua⟩ : ∃ ua, U a = ua := ⟨_, rfl⟩
  rw [hua] at HA hU hw
  clear hua
  go_enter Tryz.func75, Tryz.ntmps75
  go_wp2
  go_loop [6, 7, 8] (fun p q l => ∃ (x y : Int) (k : Nat), p = .int .u64 x ∧ q = .int .u64 y ∧ l = .int .u64 k ∧ k ≤ b ∧ 0 ≤ x ∧ x ≤ 18446744073709551615 ∧ 0 ≤ y ∧ y ≤ 18446744073709551615 ∧ Hid (U (a ^ b) = U (x * y ^ k))) (fun _ _ l => (intOf l).toNat)
  case atStart => exact ⟨1, ua, b, rfl, by go_num, by go_num, Nat.le_refl _, by omega, by omega, hU.1, hU.2, HA⟩
  case round =>
    obtain ⟨x, y, k, rfl, rfl, rfl, hk, hx0, hx1, hy0, hy1, HE⟩ := hrel
    have HY : Hid (U (y * y) ^ (k / 2) = U (y * y) ^ (k / 2)) := hid rfl
    have lY := U_lo (y * y)
    have lX := U_lo (x * y)
    have HH := hid (pow_half y k)
    have HU2 : Hid (∀ z : Int, U (z * U (y * y) ^ (k / 2)) = U (z * (y * y) ^ (k / 2))) := hid (fun z => by rw [← U_mul_r, U_pow, U_mul_r])
    by_cases h0 : k = 0
    · subst h0
      have HF : Hid (wrap64 x = wrap64 (a ^ b)) := hid (wrap64_congr (by rw [HE.out, Int.pow_zero, Int.mul_one]))
      clear HU2 HH lX lY HY HE
      go_wp2
      go_ret2
      exact ⟨by rw [← HF.out]; rfl, rfl⟩
    · by_cases h1 : k % 2 = 1
      · have HF : Hid (U (a ^ b) = U (U (x * y) * U (y * y) ^ (k / 2))) := hid (by
          have e := HH.out
          rw [h1, Int.pow_one] at e
          rw [HE.out, HU2.out, U_mul, ← e, Int.mul_assoc, Int.mul_comm y ((y * y) ^ (k / 2))])
        have g1 : (((k : Int) % 2) == 1) = true := by simp; omega
        clear HU2 HH HE
        go_wp2
        go_round
        case rel => exact ⟨U (x * y), U (y * y), k / 2, by rw [← U_wrap], by rw [← U_wrap], by go_num, by omega, lX.1, lX.2, lY.1, lY.2, HF⟩
        case measure => simp [intOf]; omega
      · have HF : Hid (U (a ^ b) = U (x * U (y * y) ^ (k / 2))) := hid (by
          have e := HH.out
          rw [show k % 2 = 0 by omega, Int.pow_zero, Int.mul_one] at e
          rw [HE.out, HU2.out, ← e])
        have g1 : (((k : Int) % 2) == 1) = false := by simp; omega
        clear HU2 HH HE
        go_wp2
        go_round
        case rel => exact ⟨x, U (y * y), k / 2, rfl, by rw [← U_wrap], by go_num, by omega, hx0, hx1, lY.1, lY.2, HF⟩
        case measure => simp [intOf]; omega

set_option maxHeartbeats 1000000 in
theorem power_below (a b : Int) (hb : b < 0) (w : World) :
    Calls Tryz.prog 75 #[.int .i64 a, .int .i64 b] w fun e w' => e = .returned (.tuple #[.int .i64 0, .int .i64 4]) ∧ w = w' := by
  go_enter Tryz.func75, Tryz.ntmps75
  go_wp2
  go_ret2
  exact ⟨rfl, rfl⟩
end Go.Proofs.YthgmilllinbcjaaGreatDoor
