/- The statement NumberBases: whatever the number, the law returns true. No conditions but that an int is one. -/
import Derived.Test.YtdmdhjohagebdaaAlive04
import Derived.OpenShut
namespace Go.Proofs.Ytdmdhjohagebdaa
open Go.RowKit
open Go.Lib (hid)

def hexL : List UInt8 := [48, 49, 50, 51, 52, 53, 54, 55, 56, 57, 97, 66, 99, 68, 101, 70]
theorem hex_piece {j : Nat} (h : j < 16) : (⟨#[48, 49, 50, 51, 52, 53, 54, 55, 56, 57, 97, 66, 99, 68, 101, 70]⟩ : ByteArray).extract j (j + 1) = ⟨#[hexL.getD j 0]⟩ := by
  have : ∀ j : Fin 16, (⟨#[48, 49, 50, 51, 52, 53, 54, 55, 56, 57, 97, 66, 99, 68, 101, 70]⟩ : ByteArray).extract j (j + 1) = ⟨#[hexL.getD j 0]⟩ := by decide +kernel
  exact this ⟨j, h⟩
theorem hex_dig {j : Nat} (h : j < 16) : digI ((hexL.getD j 0).toNat : Int) = j := by
  have : ∀ j : Fin 16, digI ((hexL.getD j 0).toNat : Int) = (j : Nat) := by decide +kernel
  exact this ⟨j, h⟩

/-- So far the digits of u's end are told; k is what is left. -/
def Told (b : Nat) (u k : Nat) (l : List UInt8) : Prop := goodL b l = true ∧ valFrom b 0 l + k * (b : Int) ^ l.length = u
theorem Told.step {b u k : Nat} {l : List UInt8} (h : Told b u k l) (c : UInt8) (hb : 0 < b) (hc : digI (c.toNat : Int) = (k % b : Nat)) : Told b u (k / b) (c :: l) := by
  refine ⟨?_, ?_⟩
  · unfold goodL
    rw [List.all_cons, Bool.and_eq_true]
    refine ⟨?_, h.1⟩
    rw [hc]
    have := Nat.mod_lt k hb
    simp; omega
  · rw [valFrom_cons, hc, List.length_cons, Int.pow_succ, ← h.2]
    have e : (k : Int) = (k / b : Nat) * (b : Int) + (k % b : Nat) := by
      have := Nat.div_add_mod k b
      rw [← Int.natCast_mul, ← Int.natCast_add, Int.natCast_inj, Nat.mul_comm]; omega
    rw [Int.mul_comm ((b : Int) ^ l.length) b, ← Int.mul_assoc]
    conv => rhs; rw [e, Int.add_mul]
    omega
theorem Told.lit {b u : Nat} {l : List UInt8} (h : Told b u 0 l) (hb : 0 < b) (hu : (u : Int) ≤ 18446744073709551615) : readL b (48 :: l) = ((u : Int), true) := by
  have e0 : digI ((48 : UInt8).toNat : Int) = 0 := by decide
  have h1 : goodL b (48 :: l) = true := by
    have := h.1
    unfold goodL at this ⊢
    rw [List.all_cons, this, e0]; simp; omega
  have h2 := h.2
  unfold readL
  rw [if_pos h1, valFrom_cons, e0, Int.zero_mul, Int.zero_add]
  simp only [Int.natCast_zero, Int.zero_mul, Int.add_zero] at h2
  rw [h2, U_in (by omega) hu]; rfl
theorem lit_hex {u : Nat} {l : List UInt8} (h : Told 16 u 0 l) (hu : (u : Int) ≤ 18446744073709551615) : litL (48 :: 120 :: 48 :: l) = (wrap64 u, 0) := by
  have e : speltL (48 :: 120 :: 48 :: l) = (48 :: l, 16) := rfl
  unfold litL
  rw [e, show readL 16 (48 :: l) = ((u : Int), true) from h.lit (by decide) hu]; rfl
theorem lit_oct {u : Nat} {l : List UInt8} (h : Told 8 u 0 l) (hu : (u : Int) ≤ 18446744073709551615) : litL (48 :: 48 :: l) = (wrap64 u, 0) := by
  have e : speltL (48 :: 48 :: l) = (48 :: l, 8) := rfl
  unfold litL
  rw [e, show readL 8 (48 :: l) = ((u : Int), true) from h.lit (by decide) hu]; rfl
theorem cat_list (l m : List UInt8) : (⟨l.toArray⟩ : ByteArray) ++ ⟨m.toArray⟩ = ⟨(l ++ m).toArray⟩ := by
  apply ByteArray.ext
  rw [ByteArray.data_append]; simp
theorem oct_val (k : Nat) : Value.int .u8 (48 + (k : Int) % 8) = Value.int .u8 (((k % 8 + 48).toUInt8.toNat : Nat) : Int) := by
  congr 1
  have : (k % 8 + 48).toUInt8.toNat = k % 8 + 48 := by rw [Nat.toUInt8_eq, UInt8.toNat_ofNat']; omega
  rw [this]; omega
theorem oct_dig (k : Nat) : digI (((k % 8 + 48).toUInt8.toNat : Nat) : Int) = (k % 8 : Nat) := by
  have : (k % 8 + 48).toUInt8.toNat = k % 8 + 48 := by rw [Nat.toUInt8_eq, UInt8.toNat_ofNat']; omega
  rw [this]; unfold digI; rw [if_pos (by omega)]; omega
theorem conv_one (W : World) (k : Nat) :
    (convert 24 9 (.slice (some ⟨W.heap.size, 0, none⟩) 1 1)).run Try.prog (W.alloc (.cells #[.int .u8 (48 + (k : Int) % 8)] 5)) = .ok (.string ⟨#[(k % 8 + 48).toUInt8]⟩) (W.alloc (.cells #[.int .u8 (48 + (k : Int) % 8)] 5)) := by
  refine run_convert_bytes_back (P := Try.prog) _ 24 9 5 ⟨W.heap.size, 0, none⟩ 1 [(k % 8 + 48).toUInt8] Try.underlying24 Try.underlying5 Try.underlying9 (fun j hj => ?_)
  have hj0 : j = 0 := by simp at hj; omega
  subst hj0
  rw [oct_val, show (⟨W.heap.size, 0, none⟩ : Addr).add 0 = ⟨W.heap.size, 0, none⟩ from rfl, cell_of World.heap_alloc_self (by simp)]
  rfl

set_option maxHeartbeats 2000000 in
theorem bases_walk (n : Int) (w : World) (hn : (Lit.int .i64 n).wf = true) :
    Calls Try.prog 3 #[.int .i64 n] w fun e w' => e = .returned (.bool true) ∧ Below w.heap.size w w' := by
  have hU := U_lo n
  have hw : IntKind.u64.wrap n = U n := U_wrap n
  obtain ⟨u, hu⟩ : ∃ u : Nat, U n = u := ⟨(U n).toNat, by omega⟩
  rw [hu] at hU hw
  go_enter Try.func3, Try.ntmps3
  go_wp2_with (first | (go_at_call 5; (with_reducible refine (alive_any _).mono ?_); rintro e w1 ⟨rfl, hw1⟩))
  go_loop [3, 5] (fun h x => ∃ (l : List UInt8) (k : Nat), h = .string ⟨l.toArray⟩ ∧ x = .int .u64 k ∧ k ≤ u ∧ l.length ≤ 16 ∧ Hid (Told 16 u k l) ∧ Hid (k < 16 ^ (16 - l.length))) (fun _ x => (intOf x).toNat)
  case atStart => exact ⟨[], u, rfl, rfl, Nat.le_refl _, Nat.zero_le _, hid ⟨rfl, by simp [valFrom]⟩, hid (by simp; omega)⟩
  case round =>
    obtain ⟨l, k, rfl, rfl, hk, hl, HT, HP⟩ := hrel
    by_cases h0 : k = 0
    · subst h0
      have HH := hid (lit_hex HT.out hU.2)
      have hl16 := hl
      clear HT HP
      go_wp2
      go_loopw [4, 7] (fun o x wr => ∃ (m : List UInt8) (k : Nat), o = .string ⟨m.toArray⟩ ∧ x = .int .u64 k ∧ k ≤ u ∧ m.length ≤ 22 ∧ Below w.heap.size w wr ∧ Hid (Told 8 u k m) ∧ Hid (k < 8 ^ (22 - m.length))) (fun _ x _ => (intOf x).toNat)
      case atStart => exact ⟨[], u, rfl, rfl, Nat.le_refl _, Nat.zero_le _, hw1, hid ⟨rfl, by simp [valFrom]⟩, hid (by simp; omega)⟩
      case round =>
        obtain ⟨m, k, rfl, rfl, hk2, hm, hwr, HT, HP⟩ := hrel
        by_cases h0 : k = 0
        · subst h0
          have HO := hid (lit_oct HT.out hU.2)
          have c1 : (⟨#[48, 120, 48]⟩ : ByteArray) ++ ⟨l.toArray⟩ = ⟨(48 :: 120 :: 48 :: l).toArray⟩ := cat_list [48, 120, 48] l
          have c2 : (⟨#[48, 48]⟩ : ByteArray) ++ ⟨m.toArray⟩ = ⟨(48 :: 48 :: m).toArray⟩ := cat_list [48, 48] m
          have cH := fun W => literal_any ⟨(48 :: 120 :: 48 :: l).toArray⟩ W (by show (48 :: 120 :: 48 :: l).toArray.size ≤ maxLen; simp [maxLen]; omega)
          have cO := fun W => literal_any ⟨(48 :: 48 :: m).toArray⟩ W (by show (48 :: 48 :: m).toArray.size ≤ maxLen; simp [maxLen]; omega)
          rw [show (⟨(48 :: 120 :: 48 :: l).toArray⟩ : ByteArray).data.toList = 48 :: 120 :: 48 :: l from by simp, HH.out] at cH
          rw [show (⟨(48 :: 48 :: m).toArray⟩ : ByteArray).data.toList = 48 :: 48 :: m from by simp, HO.out] at cO
          have hnn : wrap64 (u : Int) = n := by
            have b := bounds_i64 hn
            rw [← hu, wrap64_U]; exact wrap64_id b.1 b.2
          simp only [hnn] at cH cO
          clear HT HP
          go_wp2_with (first | (go_at_call 6; (with_reducible first | refine (cH _).mono ?_ | refine (cO _).mono ?_); rintro e w2 ⟨rfl, rfl⟩) | (go_at_call 7; (with_reducible refine (num_any _ _).mono ?_); rintro e w' ⟨rfl, rfl⟩))
          go_ret
          exact ⟨rfl, hwr⟩
        · have hcv := conv_one wr k
          have HN := hid (HT.out.step (k % 8 + 48).toUInt8 (by decide) (oct_dig k))
          obtain ⟨c, hc⟩ : ∃ c, (k % 8 + 48).toUInt8 = c := ⟨_, rfl⟩
          rw [hc] at hcv HN
          clear hc
          have hm21 : m.length ≤ 21 := by
            by_cases h : m.length = 22
            · have := HP.out; rw [h] at this; simp at this; omega
            · omega
          have HPN : Hid (k / 8 < 8 ^ (22 - (m.length + 1))) := hid (by
            have := HP.out
            rw [show 22 - m.length = (22 - (m.length + 1)) + 1 by omega, Nat.pow_succ] at this
            omega)
          have HB := hid (hwr.alloc (Nat.le_trans (Nat.le_refl _) hwr.size) (.cells #[.int .u8 (48 + (k : Int) % 8)] 5))
          clear HT HP
          go_wp2
          go_round
          case rel => exact ⟨c :: m, k / 8, congrArg Value.string (cat_list [c] m), by rw [Int.natCast_ediv]; rfl, by omega, by simp; omega, HB.out, HN, HPN⟩
          case measure => simp [intOf]; omega
    · have hj : k % 16 < 16 := by omega
      have hsl : ∀ w, (Instr.slice 9 (.string ⟨#[48, 49, 50, 51, 52, 53, 54, 55, 56, 57, 97, 66, 99, 68, 101, 70]⟩) (some (.int .u64 ((k : Int) % 16))) (some (.int .u64 ((k : Int) % 16 + 1))) none).run Try.prog w = .ok (.string ⟨#[hexL.getD (k % 16) 0]⟩) w := fun w => by
        rw [run_slice_string w 9 _ .u64 .u64 _ _ Try.underlying9 (by omega) (by omega) (by show _ ≤ ((16 : Nat) : Int); omega), show ((k : Int) % 16).toNat = k % 16 by omega, show ((k : Int) % 16 + 1).toNat = k % 16 + 1 by omega, hex_piece hj]
      have HN := hid (HT.out.step (hexL.getD (k % 16) 0) (by decide) (hex_dig hj))
      have hl15 : l.length ≤ 15 := by
        by_cases h : l.length = 16
        · have := HP.out; rw [h] at this; simp at this; omega
        · omega
      have HPN : Hid (k / 16 < 16 ^ (16 - (l.length + 1))) := hid (by
        have := HP.out
        rw [show 16 - l.length = (16 - (l.length + 1)) + 1 by omega, Nat.pow_succ] at this
        omega)
      clear HT HP
      go_wp2
      go_round
      case rel => exact ⟨hexL.getD (k % 16) 0 :: l, k / 16, congrArg Value.string (cat_list [hexL.getD (k % 16) 0] l), by rw [Int.natCast_ediv]; rfl, by omega, by simp; omega, HN, HPN⟩
      case measure => simp [intOf]; omega
end Go.Proofs.Ytdmdhjohagebdaa
