
/- The reference's one: its walk. Conditions: sizes. -/
import Derived.Test.YtckmgcdiclkoeaaGreatDoorRpO
import Derived.Deep.AppendLies
namespace Go.Proofs.YtckmgcdiclkoeaaGreatDoor
open Go.RowKit
open Go.Lib (hid)

abbrev escNB : ByteArray := ⟨#[92, 97, 98, 102, 110, 114, 116, 118]⟩
abbrev escVB : ByteArray := ⟨#[92, 7, 8, 12, 10, 13, 9, 11]⟩
theorem conv_one (W : World) (x : UInt8) :
    (convert 35 9 (.slice (some ⟨W.heap.size, 0, none⟩) 1 1)).run Tryz.prog (W.alloc (.cells #[.int .u8 x.toNat] 5)) = .ok (encS [x]) (W.alloc (.cells #[.int .u8 x.toNat] 5)) := by
  have h1 : (W.alloc (.cells #[.int .u8 x.toNat] 5)).heap[W.heap.size]? = some (.cells #[.int .u8 x.toNat] 5 (0, 0)) := heap_alloc_new _ _
  generalize W.alloc (.cells #[.int .u8 x.toNat] 5) = W1 at *
  refine run_convert_bytes_back (P := Tryz.prog) _ 35 9 5 ⟨W.heap.size, 0, none⟩ 1 [x] Tryz.underlying35 Tryz.underlying5 Tryz.underlying9 (fun j hj => ?_)
  have hj0 : j = 0 := by simp at hj; omega
  subst hj0
  rw [add_at]
  simp [World.cell?, h1]

set_option linter.unusedSimpArgs false in
set_option maxRecDepth 100000 in
set_option maxHeartbeats 4000000 in
theorem rone_any (t : List UInt8) (w : World) (ht : t.length ≤ 1099511627776) :
    Calls Tryz.prog 21 #[encS (92 :: t)] w fun e w' => e = .returned (.tuple #[encS (oneL t).1, .int .i64 (oneL t).2]) ∧ Below w.heap.size w w' := by
  obtain ⟨S, hS⟩ : ∃ S : ByteArray, (⟨(92 :: t).toArray⟩ : ByteArray) = S := ⟨_, rfl⟩
  have hsz : S.size = t.length + 1 := by rw [← hS]; simp [ByteArray.size]
  have HG : Hid (∀ (k : Nat) (h : k < t.length) (h' : k + 1 < S.size), S[k + 1]'h' = t[k]) := hid fun k h h' => by
    subst hS
    simp [ByteArray.getElem_eq_getElem_data]
  rw [show encS (92 :: t) = .string S by rw [← hS]]
  clear hS
  cases t with
  | nil =>
    simp only [List.length_nil, Nat.zero_add] at hsz
    go_enter Tryz.func21, Tryz.ntmps21
    go_wp2_with fail
    go_loopw [6] (fun vi wr => vi = .int .i64 0 ∧ Hid (Below w.heap.size w wr)) (fun _ _ => 0)
    case atStart => exact ⟨rfl, hid (Below.refl _ _)⟩
    case round =>
      obtain ⟨rfl, HB⟩ := hrel
      go_wp2_with fail
      go_loopw [7, 8] (fun v7 v8 wr => v7 = .int .i64 0 ∧ v8 = .int .i64 0 ∧ Hid (Below w.heap.size w wr)) (fun _ _ _ => 0)
      case atStart => exact ⟨rfl, rfl, HB⟩
      case round =>
        obtain ⟨rfl, rfl, HB⟩ := hrel
        go_wp2_with fail
        go_ret2
        exact ⟨rfl, HB.out⟩
  | cons c r =>
    have hs2 : (1 : Int) < (S.size : Int) := by rw [hsz]; simp; omega
    have hg1 : ∀ h, S[1]'h = c := fun h => HG.out 0 (by simp) h
    have hes := esc_cases c
    have HO : Hid (oneL (c :: r) = match escOf c with | some b => ([b], 2) | none => octE (c :: r)) := hid rfl
    generalize hT : c :: r = T at *
    have hTl : 1 ≤ T.length := by rw [← hT]; simp
    clear hT
    go_enter Tryz.func21, Tryz.ntmps21
    go_wp2_with fail
    go_loopw [6] (fun vi wr => ∃ k : Nat, k ≤ 8 ∧ vi = .int .i64 k ∧ Hid (∀ j (hj : j < 8), j < k → escN[j] ≠ c) ∧ Hid (Below w.heap.size w wr)) (fun vi _ => 8 - (intOf vi).toNat)
    case atStart => exact ⟨0, Nat.zero_le _, rfl, hid (fun _ _ h => absurd h (Nat.not_lt_zero _)), hid (Below.refl _ _)⟩
    case round =>
      obtain ⟨k, hk, rfl, HN, HB⟩ := hrel
      have hns : escNB.size = 8 := rfl
      by_cases hlt : k < 8
      · obtain ⟨z, hz⟩ : ∃ z, escN[k] = z := ⟨_, rfl⟩
        obtain ⟨b, hb⟩ : ∃ b, escV[k]'(by exact hlt) = b := ⟨_, rfl⟩
        have hgz : ∀ h, escNB[k]'h = z := fun h => by rw [← hz]; rfl
        have hxt : escVB.extract k (k + 1) = ⟨#[b]⟩ := by
          rw [← hb]
          have : ∀ (k : Fin 8), escVB.extract k (k + 1) = ⟨#[escV[k]'(by exact k.2)]⟩ := by decide
          exact this ⟨k, hlt⟩
        have hvs : escVB.size = 8 := rfl
        by_cases he : c = z
        · have q1 : ((c.toNat : Int) == (z.toNat : Int)) = true := by rw [he]; simp
          have HE : Hid (oneL T = ([b], 2)) := hid (by
            rw [HO.out]
            rcases hes with ⟨i, hi, e1, e2, e3⟩ | ⟨-, e2⟩
            · have : i = k := by
                rcases Nat.lt_trichotomy i k with h | h | h
                · exact absurd e1 (HN.out i hi h)
                · exact h
                · exact absurd (hz.trans he.symm) (e3 k hlt h)
              subst this
              rw [e2, hb]
            · exact absurd (hz.trans he.symm) (e2 k hlt))
          clear hes HN HO hz hb he
          go_wp2_with fail
          go_quiet (fail)
          go_wp2_with fail
          go_ret2
          exact ⟨by rw [HE.out]; rfl, below_drewN HB.out _⟩
        · have q1 : ((c.toNat : Int) == (z.toNat : Int)) = false := by
            simp only [beq_eq_false_iff_ne]
            intro e
            exact he (UInt8.toNat_inj.1 (by exact_mod_cast e))
          have HN2 : Hid (∀ j (hj : j < 8), j < k + 1 → escN[j] ≠ c) := hid fun j hj hjk => by
            by_cases e : j = k
            · subst e; rw [hz]; exact fun e => he e.symm
            · exact HN.out j hj (by omega)
          clear hes HN HO hz hb he hxt
          go_wp2_with fail
          go_quiet (fail)
          go_wp2_with fail
          go_roundw
          case rel => exact ⟨k + 1, by omega, by go_num, HN2, hid (below_drewN HB.out _)⟩
          case measure => simp [intOf]; omega
      · obtain rfl : k = 8 := by omega
        have HE : Hid (oneL T = octE T) := hid (by
          rw [HO.out]
          rcases hes with ⟨i, hi, e1, e2, e3⟩ | ⟨e1, -⟩
          · exact absurd e1 (HN.out i hi hi)
          · rw [e1])
        have HA := hid (octs_at T)
        have hol := octs_len T
        clear hes HN HO
        go_wp2_with fail
        go_loopw [7, 8] (fun v7 v8 wr => ∃ k : Nat, k ≤ (octsL T).length ∧ v8 = .int .i64 k ∧ v7 = .int .i64 (octN (T.take k)) ∧ Hid (Below w.heap.size w wr)) (fun _ v8 _ => 4 - (intOf v8).toNat)
        case atStart => exact ⟨0, Nat.zero_le _, rfl, rfl, HB⟩
        case round =>
          obtain ⟨k, hk, rfl, rfl, HB⟩ := hrel
          have hN : octN (T.take k) ≤ 511 := octN_le _ (fun c hc => by
            obtain ⟨j, hj, rfl⟩ := List.mem_take_iff_getElem.1 hc
            exact HA.out.1 j (by omega) (by omega)) (by rw [List.length_take]; omega)
          by_cases hklt : k < (octsL T).length
          · have hkT : k < T.length := by omega
            obtain ⟨b, hb⟩ : ∃ b, T[k] = b := ⟨_, rfl⟩
            have hgk : ∀ h, S[k + 1]'h = b := fun h => by rw [← hb]; exact HG.out k hkT h
            have hob := HA.out.1 k hkT hklt
            rw [hb] at hob
            have hbr : 48 ≤ b.toNat ∧ b.toNat ≤ 55 := by unfold octB at hob; exact of_decide_eq_true hob
            have hM : octN (T.take (k + 1)) = 8 * octN (T.take k) + (b.toNat - 48) := by
              rw [List.take_succ_eq_append_getElem hkT, octN_snoc, hb]
            obtain ⟨N, hNe⟩ : ∃ N, octN (T.take k) = N := ⟨_, rfl⟩
            obtain ⟨M, hMe⟩ : ∃ M, octN (T.take (k + 1)) = M := ⟨_, rfl⟩
            rw [hNe] at hN hM
            rw [hMe] at hM
            have hMi : 8 * (N : Int) + ((b.toNat : Int) - 48) = (M : Int) := by omega
            have a1 : IntKind.u8.wrap ((b.toNat : Int) - 48) = (b.toNat : Int) - 48 := by rw [IntKind.wrap_u8]; omega
            have a2 : IntKind.i64.wrap ((b.toNat : Int) - 48) = (b.toNat : Int) - 48 := by rw [IntKind.wrap_i64]; omega
            have k3 : (k : Int) < 3 := by omega
            have ks : (k : Int) + 1 < (S.size : Int) := by omega
            have b1 : (48 : Int) ≤ (b.toNat : Int) := by omega
            have b2 : (b.toNat : Int) ≤ 55 := by omega
            have HMe := hid hMe
            have HK := hid (show k + 1 ≤ (octsL T).length by omega)
            have hMb : M ≤ 5000 := by omega
            rw [hNe]
            clear hob hb hM hMe hNe HA HE
            go_wp2_with fail
            go_roundw
            case rel => exact ⟨k + 1, HK.out, by go_num, by rw [HMe.out], HB⟩
            case measure => simp [intOf]; omega
          · have hke : k = (octsL T).length := by omega
            obtain ⟨N, hNe⟩ : ∃ N, octN (T.take k) = N := ⟨_, rfl⟩
            have hNo : octN (octsL T) = N := by rw [HA.out.2.2, ← hke, hNe]
            have hex : ¬ (k : Int) < 3 ∨ ((k : Int) < 3 ∧ ¬ (k : Int) + 1 < (S.size : Int)) ∨ (∃ b : UInt8, (k : Int) < 3 ∧ (k : Int) + 1 < (S.size : Int) ∧ (∀ h, S[k + 1]'h = b) ∧ (¬ (48 : Int) ≤ (b.toNat : Int) ∨ ((48 : Int) ≤ (b.toNat : Int) ∧ ¬ (b.toNat : Int) ≤ 55))) := by
              by_cases h3 : k < 3
              · right
                by_cases hkT : k < T.length
                · right
                  refine ⟨T[k], by omega, by omega, fun h => HG.out k hkT h, ?_⟩
                  rcases HA.out.2.1 with h | h | ⟨h, h2⟩
                  · omega
                  · omega
                  · have h4 : octB T[k] = false := by simp only [hke]; exact h2
                    unfold octB at h4
                    have h5 := of_decide_eq_false h4
                    omega
                · left; omega
              · left; omega
            have hfin : (((k : Int) == 0) = true ∧ Hid (oneL T = ([], 0))) ∨ (((k : Int) == 0) = false ∧ ((N : Int) % 256 == 0) = true ∧ Hid (oneL T = ([], k + 1))) ∨ (((k : Int) == 0) = false ∧ ((N : Int) % 256 == 0) = false ∧ Hid (oneL T = ([N.toUInt8], k + 1))) := by
              simp only [beq_iff_eq, beq_eq_false_iff_ne]
              by_cases h0 : octsL T = []
              · refine .inl ⟨by rw [hke, h0]; rfl, hid (by rw [HE.out]; unfold octE; rw [if_pos h0])⟩
              · have hp := List.length_pos_iff.2 h0
                by_cases hm : N % 256 = 0
                · refine .inr (.inl ⟨by omega, by omega, hid (by rw [HE.out]; unfold octE; rw [if_neg h0, hNo, if_pos hm, ← hke])⟩)
                · refine .inr (.inr ⟨by omega, by omega, hid (by rw [HE.out]; unfold octE; rw [if_neg h0, hNo, if_neg hm, ← hke])⟩)
            obtain ⟨x, hx⟩ : ∃ x, N.toUInt8 = x := ⟨_, rfl⟩
            have hxw : IntKind.u8.wrap (N : Int) = (x.toNat : Int) := by
              rw [IntKind.wrap_u8, ← hx, Nat.toUInt8_eq, UInt8.toNat_ofNat']
              omega
            have hcv := conv_one wr x
            have hk4 : k ≤ 3 := by omega
            rw [hx] at hfin
            rw [hNe] at hN ⊢
            clear hke hNo hNe hx HA HE hklt hk
            rcases hfin with ⟨f1, HF⟩ | ⟨f1, f2, HF⟩ | ⟨f1, f2, HF⟩
            all_goals
              rcases hex with k3 | ⟨k3, ks⟩ | ⟨b, k3, ks, hgk, b1 | ⟨b1, b2⟩⟩
            all_goals
              go_wp2_with fail
              go_ret2
              refine ⟨by rw [HF.out]; rfl, ?_⟩
              first | exact HB.out | exact HB.out.alloc HB.out.size _
end Go.Proofs.YtckmgcdiclkoeaaGreatDoor
