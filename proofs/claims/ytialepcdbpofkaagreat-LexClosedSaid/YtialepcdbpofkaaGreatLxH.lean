/- Contracts of lex's digit and named: how many octets name a parameter. Conditions: sizes. -/
import Derived.Test.YtialepcdbpofkaaGreatLxE
import Derived.Test.YtialepcdbpofkaaGreatOctN
import Derived.Test.YtialepcdbpofkaaGreatCln
import Derived.Deep.LoopGhost
namespace Go.Proofs.YtialepcdbpofkaaGreat
open Go.RowKit
open Go.Lib (hid)

theorem tw_lt {f : UInt8 → Bool} : ∀ {l : List UInt8} {n : Nat} (_ : n < (l.takeWhile f).length) (hl : n < l.length), f l[n] = true
  | [], _, _, hl => by simp at hl
  | c :: r, n, h, hl => by
    rw [List.takeWhile_cons] at h
    cases hc : f c
    · rw [hc] at h; simp at h
    · rw [hc] at h
      cases n with
      | zero => exact hc
      | succ n => exact tw_lt (l := r) (by simpa using h) (by simpa using hl)
theorem tw_stop {f : UInt8 → Bool} : ∀ {l : List UInt8} (hl : (l.takeWhile f).length < l.length), f (l[(l.takeWhile f).length]) = false
  | [], hl => by simp at hl
  | c :: r, hl => by
    cases hc : f c
    · have : (c :: r).takeWhile f = [] := by rw [List.takeWhile_cons, hc]; rfl
      simp only [this]
      exact hc
    · have e : (c :: r).takeWhile f = c :: r.takeWhile f := by rw [List.takeWhile_cons, hc]; rfl
      simp only [e, List.length_cons] at hl ⊢
      exact tw_stop (l := r) (by simpa using hl)
theorem tw_le (f : UInt8 → Bool) (l : List UInt8) : (l.takeWhile f).length ≤ l.length := by
  have := List.takeWhile_prefix f (l := l)
  exact this.length_le

theorem ldigit_any (c : Int) (w : World) :
    Calls Tryz.prog 75 #[.int .u8 c] w fun e w' => e = .returned (.bool (digitB c)) ∧ w' = w := by
  by_cases h1 : 48 ≤ c <;> by_cases h2 : c ≤ 57
  all_goals
    first
    | (exfalso; omega)
    | ((first | have H := Lib.hid (show digitB c = true from decide_eq_true (by omega)) | have H := Lib.hid (show digitB c = false from decide_eq_false (by omega)))
       go_enter Tryz.func75, Tryz.ntmps75
       go_wp2
       go_ret
       exact ⟨by rw [H.out]; rfl, rfl⟩)

def digC (c : UInt8) : Bool := digitB c.toNat
def nmC (c : UInt8) : Bool := digitB c.toNat || nameL [c]
def specC (c : UInt8) : Bool := decide (0 ≤ Lib.indexByte [64, 42, 35, 63] c)
/-- How many octets at the beginning name a parameter, of digits no more than most. -/
def namedN (l : List UInt8) (most : Nat) : Nat := match l with
  | [] => 0
  | c :: _ => if specC c then 1 else if digC c then min (l.takeWhile digC).length most else (l.takeWhile nmC).length
theorem namedN_cons (c : UInt8) (r : List UInt8) (most : Nat) : namedN (c :: r) most = if specC c then 1 else if digC c then min ((c :: r).takeWhile digC).length most else ((c :: r).takeWhile nmC).length := rfl
theorem namedN_le (l : List UInt8) (most : Nat) : namedN l most ≤ l.length := by
  cases l with
  | nil => exact Nat.le_refl _
  | cons c r =>
    rw [namedN_cons]
    split
    · simp
    · split
      · exact Nat.le_trans (Nat.min_le_left _ _) (tw_le _ _)
      · exact tw_le _ _

set_option maxRecDepth 100000 in
set_option maxHeartbeats 4000000 in
theorem named_any (s : ByteArray) (most : Nat) (hs : s.size ≤ 281474976710656) (hm : most ≤ 281474976710656) (w : World) :
    Calls Tryz.prog 61 #[.string s, .int .i64 most] w fun e w' => e = .returned (.int .i64 (namedN s.data.toList most)) ∧ w' = w := by
  have cD := fun c W => ldigit_any c W
  have cI := fun c W => (Tryz.strings_IndexByte ⟨#[64, 42, 35, 63]⟩ c W)
  by_cases h0 : s.size = 0
  · have he : s = ⟨#[]⟩ := by apply ByteArray.ext; exact Array.eq_empty_of_size_eq_zero h0
    subst he
    go_enter Tryz.func61, Tryz.ntmps61
    go_wp2_with fail
    go_ret
    exact ⟨rfl, rfl⟩
  · have hpos : 0 < s.size := by omega
    obtain ⟨c, hc⟩ : ∃ c, s[0] = c := ⟨_, rfl⟩
    have hne : (s.toList == []) = false := by
      rw [toList_data]; cases hl : s.data.toList with
      | nil => have := len_toList s; rw [hl] at this; simp at this; omega
      | cons x r => rfl
    have hcons : ∃ r, s.data.toList = c :: r := by
      cases hl : s.data.toList with
      | nil => have := len_toList s; rw [hl] at this; simp at this; omega
      | cons x r => refine ⟨r, ?_⟩; have := getElem_toList s 0 hpos; simp only [hl, List.getElem_cons_zero] at this; rw [this, hc]
    have hposi : (0 : Int) < (s.size : Int) := by omega
    cases hsp : specC c
    · have gs : decide (0 ≤ Lib.indexByte [64, 42, 35, 63] c) = false := hsp
      have cI := fun W => cI (c.toNat : Int) W
      simp only [u8_toNat_cast] at cI
      cases hdc : digC c
      · have hV : namedN s.data.toList most = (s.data.toList.takeWhile nmC).length := by obtain ⟨r, hr⟩ := hcons; rw [hr, namedN_cons, hsp, hdc]; rfl
        have gd : digitB (c.toNat : Int) = false := hdc
        have hle := tw_le nmC s.data.toList
        rw [len_toList] at hle
        have HV := hid hV
        have hlt := @tw_lt nmC s.data.toList
        have hst := @tw_stop nmC s.data.toList
        obtain ⟨N, hN⟩ : ∃ N, (s.data.toList.takeWhile nmC).length = N := ⟨_, rfl⟩
        rw [hN] at hle HV
        have hlt : ∀ n (h : n < N) (hl : n < s.size), nmC s[n] = true := fun n h hl => hlt (by omega) (by rw [len_toList]; exact hl)
        have hst : ∀ (hl : N < s.size), nmC s[N] = false := fun hl => by
          have := hst (by rw [hN, len_toList]; exact hl)
          simp only [hN] at this
          exact this
        have HL := hid hlt
        have HS := hid hst
        clear hV hsp hdc hcons hlt hst hN
        go_enter Tryz.func61, Tryz.ntmps61
        go_wp2_with (first
          | (go_at_call 43; (with_reducible refine (cI _).mono ?_); rintro e w1 ⟨rfl, hw⟩; have hw := hw.symm; subst hw)
          | (go_at_call 75; (with_reducible refine (cD _ _).mono ?_); rintro e w1 ⟨rfl, hw⟩; have hw := hw.symm; subst hw))
        go_loopg [5] N (fun k v wr => ∃ n : Nat, v = .int .i64 n ∧ n + k = N ∧ wr = w)
        case atStart => exact ⟨0, rfl, by omega, rfl⟩
        case round =>
          obtain ⟨n, rfl, hnk, rfl⟩ := hrel
          have hn0 : (0 : Int) ≤ (n : Int) := by omega
          have hni : (n : Int) ≤ 281474976710656 := by omega
          cases gk with
          | zero =>
            have hnN : n = N := by omega
            subst hnN
            by_cases hsz : n < s.size
            · have gn : (n : Int) < (s.size : Int) := by omega
              have gn1 : (n : Int) + 1 ≤ (s.size : Int) := by omega
              have hnm := HS.out hsz
              obtain ⟨x, hx⟩ : ∃ x, s[n] = x := ⟨_, rfl⟩
              rw [hx] at hnm
              have hxo : s.extract n (n + 1) = ⟨#[x]⟩ := by rw [ext_one s n hsz, hx]
              have cN := fun W => name_any ⟨#[x]⟩ W (by show (1 : Nat) ≤ maxLen; decide)
              have h1 : digitB (x.toNat : Int) = false := by unfold nmC at hnm; simp at hnm; exact hnm.1
              have h2 : nameL [x] = false := by unfold nmC at hnm; simp at hnm; exact hnm.2
              have cN : ∀ W, Calls Tryz.prog 76 #[.string ⟨#[x]⟩] W fun e w' => e = .returned (.bool false) ∧ W = w' := fun W => by have := cN W; rw [show (⟨#[x]⟩ : ByteArray).data.toList = [x] from rfl, h2] at this; exact this
              have cX := fun W => cD (x.toNat : Int) W
              rw [h1] at cX
              clear hnm h1 h2 HL HS
              go_wp2_with (first
                | (go_at_call 75; (with_reducible refine (cX _).mono ?_); rintro e w1 ⟨rfl, hw⟩; have hw := hw.symm; subst hw)
                | (go_at_call 76; (with_reducible refine (cN _).mono ?_); rintro e w1 ⟨rfl, rfl⟩))
              go_ret
              rw [HV.out]
              exact ⟨rfl, rfl⟩
            · have gn : ¬ (n : Int) < (s.size : Int) := by omega
              clear HL HS hsz
              go_wp2_with fail
              go_ret
              rw [HV.out]
              exact ⟨rfl, rfl⟩
          | succ k =>
            have hsz : n < s.size := by omega
            have gn : (n : Int) < (s.size : Int) := by omega
            have gn1 : (n : Int) + 1 ≤ (s.size : Int) := by omega
            have hnm := HL.out n (by omega) hsz
            obtain ⟨x, hx⟩ : ∃ x, s[n] = x := ⟨_, rfl⟩
            rw [hx] at hnm
            have hxo : s.extract n (n + 1) = ⟨#[x]⟩ := by rw [ext_one s n hsz, hx]
            have cN := fun W => name_any ⟨#[x]⟩ W (by show (1 : Nat) ≤ maxLen; decide)
            have cX := fun W => cD (x.toNat : Int) W
            cases h1 : digitB (x.toNat : Int)
            · have h2 : nameL [x] = true := by unfold nmC at hnm; rw [h1] at hnm; simpa using hnm
              have cN : ∀ W, Calls Tryz.prog 76 #[.string ⟨#[x]⟩] W fun e w' => e = .returned (.bool true) ∧ W = w' := fun W => by have := cN W; rw [show (⟨#[x]⟩ : ByteArray).data.toList = [x] from rfl, h2] at this; exact this
              rw [h1] at cX
              clear hnm h1 h2 HL HS
              go_wp2_with (first
                | (go_at_call 75; (with_reducible refine (cX _).mono ?_); rintro e w1 ⟨rfl, hw⟩; have hw := hw.symm; subst hw)
                | (go_at_call 76; (with_reducible refine (cN _).mono ?_); rintro e w1 ⟨rfl, rfl⟩))
              go_roundg k
              case rel => exact ⟨n + 1, by go_num, by omega, rfl⟩
              case measure => exact Nat.lt_succ_self k
            · rw [h1] at cX
              clear hnm h1 HL HS
              go_wp2_with (go_at_call 75; (with_reducible refine (cX _).mono ?_); rintro e w1 ⟨rfl, hw⟩; have hw := hw.symm; subst hw)
              go_roundg k
              case rel => exact ⟨n + 1, by go_num, by omega, rfl⟩
              case measure => exact Nat.lt_succ_self k
      · have hV : namedN s.data.toList most = min (s.data.toList.takeWhile digC).length most := by obtain ⟨r, hr⟩ := hcons; rw [hr, namedN_cons, hsp, hdc]; rfl
        have gd : digitB (c.toNat : Int) = true := hdc
        have hle := tw_le digC s.data.toList
        rw [len_toList] at hle
        have hlt := @tw_lt digC s.data.toList
        have hst := @tw_stop digC s.data.toList
        have HV := hid hV
        obtain ⟨M, hM⟩ : ∃ M, (s.data.toList.takeWhile digC).length = M := ⟨_, rfl⟩
        rw [hM] at hle HV
        have hlt : ∀ n (h : n < M) (hl : n < s.size), digC s[n] = true := fun n h hl => hlt (by omega) (by rw [len_toList]; exact hl)
        have hst : ∀ (hl : M < s.size), digC s[M] = false := fun hl => by
          have := hst (by rw [hM, len_toList]; exact hl)
          simp only [hM] at this
          exact this
        have HL := hid hlt
        have HS := hid hst
        obtain ⟨N, hN⟩ : ∃ N, min M most = N := ⟨_, rfl⟩
        rw [hN] at HV
        clear hV hsp hdc hcons hlt hst hM
        go_enter Tryz.func61, Tryz.ntmps61
        go_wp2_with (first
          | (go_at_call 43; (with_reducible refine (cI _).mono ?_); rintro e w1 ⟨rfl, hw⟩; have hw := hw.symm; subst hw)
          | (go_at_call 75; (with_reducible refine (cD _ _).mono ?_); rintro e w1 ⟨rfl, hw⟩; have hw := hw.symm; subst hw))
        go_loopg [5] N (fun k v wr => ∃ n : Nat, v = .int .i64 n ∧ n + k = N ∧ wr = w)
        case atStart => exact ⟨0, rfl, by omega, rfl⟩
        case round =>
          obtain ⟨n, rfl, hnk, rfl⟩ := hrel
          have hn0 : (0 : Int) ≤ (n : Int) := by omega
          have hni : (n : Int) ≤ 281474976710656 := by omega
          have hmn0 : (0 : Int) ≤ (most : Int) := by omega
          have hmn : min (most : Int) (s.size : Int) = ((min most s.size : Nat) : Int) := by omega
          cases gk with
          | zero =>
            have hnN : n = N := by omega
            subst hnN
            by_cases hnm : n < most ∧ n < s.size
            · have hnM : n = M := by omega
              subst hnM
              have hsz := hnm.2
              have gn : (n : Int) < (s.size : Int) := by omega
              have gm : (n : Int) < (most : Int) := by omega
              have hdf := HS.out hsz
              obtain ⟨x, hx⟩ : ∃ x, s[n] = x := ⟨_, rfl⟩
              rw [hx] at hdf
              have cX := fun W => cD (x.toNat : Int) W
              rw [show digitB (x.toNat : Int) = false from hdf] at cX
              clear HL HS hdf hN hmn
              go_wp2_with (go_at_call 75; (with_reducible refine (cX _).mono ?_); rintro e w1 ⟨rfl, hw⟩; have hw := hw.symm; subst hw)
              all_goals
                go_ret
                rw [HV.out]
                exact ⟨rfl, rfl⟩
            · clear HL HS hN hmn
              by_cases h1 : n < most
              · have g1 : (s.size : Int) ≤ (n : Int) := by omega
                have g2 : (n : Int) < (most : Int) := by omega
                have g3 : ¬ (n : Int) < (s.size : Int) := by omega
                clear hnm h1
                go_wp2_with fail
                all_goals
                  go_ret
                  rw [HV.out]
                  exact ⟨rfl, rfl⟩
              · have g1 : (most : Int) ≤ (n : Int) := by omega
                have g3 : ¬ (n : Int) < (most : Int) := by omega
                clear hnm h1
                go_wp2_with fail
                all_goals
                  go_ret
                  rw [HV.out]
                  exact ⟨rfl, rfl⟩
          | succ k =>
            have hsz : n < s.size := by omega
            have gn : (n : Int) < (s.size : Int) := by omega
            have gm : (n : Int) < (most : Int) := by omega
            have hdt := HL.out n (by omega) hsz
            obtain ⟨x, hx⟩ : ∃ x, s[n] = x := ⟨_, rfl⟩
            rw [hx] at hdt
            have cX := fun W => cD (x.toNat : Int) W
            rw [show digitB (x.toNat : Int) = true from hdt] at cX
            have HN := hid hnk
            clear HL HS hdt hN hmn hnk
            go_wp2_with (go_at_call 75; (with_reducible refine (cX _).mono ?_); rintro e w1 ⟨rfl, hw⟩; have hw := hw.symm; subst hw)
            all_goals
              go_roundg k
              case rel => exact ⟨n + 1, by go_num, by have := HN.out; omega, rfl⟩
              case measure => exact Nat.lt_succ_self k
    · have hV : namedN s.data.toList most = 1 := by obtain ⟨r, hr⟩ := hcons; rw [hr]; unfold namedN; simp [hsp]
      have gs : decide (0 ≤ Lib.indexByte [64, 42, 35, 63] c) = true := hsp
      have cI := fun W => cI (c.toNat : Int) W
      simp only [u8_toNat_cast] at cI
      have HV := hid hV
      clear hV hsp hcons
      go_enter Tryz.func61, Tryz.ntmps61
      go_wp2_with (go_at_call 43; (with_reducible refine (cI _).mono ?_); rintro e w1 ⟨rfl, rfl⟩)
      go_ret
      rw [HV.out]
      exact ⟨rfl, rfl⟩
end Go.Proofs.YtialepcdbpofkaaGreat
