/- What the statement of Own13Said leans on, part 4: LxH, LxI, LxL, LxJ, LxK, Alive13. Conditions: each theorem's own. -/
import Derived.Test.YtialepcdbpofkaaGreatKOC
namespace Go.Proofs.YtialepcdbpofkaaGreat
open Go.RowKit
open Go.Lib (hid)
theorem tw_lt {f : UInt8 → Bool} : ∀ {l : List UInt8} {n : Nat} (_ : n < (l.takeWhile f).length) (hl : n < l.length), f l[n] = true
  | [], _, _, hl => by simp at hl
  | c :: r, n, h, hl => by
    rw [List.takeWhile_cons] at h
    cases hc : f c
    · rw [hc] at h; simp at h
    · rw [hc] at h
      cases n with
      | zero => exact hc
      | succ n => exact tw_lt (l := r) (by simpa using h) (by simpa using hl)
theorem tw_stop {f : UInt8 → Bool} : ∀ {l : List UInt8} (hl : (l.takeWhile f).length < l.length), f (l[(l.takeWhile f).length]) = false
  | [], hl => by simp at hl
  | c :: r, hl => by
    cases hc : f c
    · have : (c :: r).takeWhile f = [] := by rw [List.takeWhile_cons, hc]; rfl
      simp only [this]
      exact hc
    · have e : (c :: r).takeWhile f = c :: r.takeWhile f := by rw [List.takeWhile_cons, hc]; rfl
      simp only [e, List.length_cons] at hl ⊢
      exact tw_stop (l := r) (by simpa using hl)
theorem tw_le (f : UInt8 → Bool) (l : List UInt8) : (l.takeWhile f).length ≤ l.length := by
  have := List.takeWhile_prefix f (l := l)
  exact this.length_le
theorem ldigit_any (c : Int) (w : World) :
    Calls Tryz.prog 75 #[.int .u8 c] w fun e w' => e = .returned (.bool (digitB c)) ∧ w' = w := by
  by_cases h1 : 48 ≤ c <;> by_cases h2 : c ≤ 57
  all_goals
    first
    | (exfalso; omega)
    | ((first | have H := Lib.hid (show digitB c = true from decide_eq_true (by omega)) | have H := Lib.hid (show digitB c = false from decide_eq_false (by omega)))
       go_enter Tryz.func75, Tryz.ntmps75
       go_wp2
       go_ret
       exact ⟨by rw [H.out]; rfl, rfl⟩)
def digC (c : UInt8) : Bool := digitB c.toNat
def nmC (c : UInt8) : Bool := digitB c.toNat || nameL [c]
def specC (c : UInt8) : Bool := decide (0 ≤ Lib.indexByte [64, 42, 35, 63] c)
def namedN (l : List UInt8) (most : Nat) : Nat := match l with
  | [] => 0
  | c :: _ => if specC c then 1 else if digC c then min (l.takeWhile digC).length most else (l.takeWhile nmC).length
theorem namedN_cons (c : UInt8) (r : List UInt8) (most : Nat) : namedN (c :: r) most = if specC c then 1 else if digC c then min ((c :: r).takeWhile digC).length most else ((c :: r).takeWhile nmC).length := rfl
theorem namedN_le (l : List UInt8) (most : Nat) : namedN l most ≤ l.length := by
  cases l with
  | nil => exact Nat.le_refl _
  | cons c r =>
    rw [namedN_cons]
    split
    · simp
    · split
      · exact Nat.le_trans (Nat.min_le_left _ _) (tw_le _ _)
      · exact tw_le _ _
set_option maxRecDepth 100000 in
set_option maxHeartbeats 4000000 in
theorem named_any (s : ByteArray) (most : Nat) (hs : s.size ≤ 281474976710656) (hm : most ≤ 281474976710656) (w : World) :
    Calls Tryz.prog 61 #[.string s, .int .i64 most] w fun e w' => e = .returned (.int .i64 (namedN s.data.toList most)) ∧ w' = w := by
  have cD := fun c W => ldigit_any c W
  have cI := fun c W => (Tryz.strings_IndexByte ⟨#[64, 42, 35, 63]⟩ c W)
  by_cases h0 : s.size = 0
  · have he : s = ⟨#[]⟩ := by apply ByteArray.ext; exact Array.eq_empty_of_size_eq_zero h0
    subst he
    go_enter Tryz.func61, Tryz.ntmps61
    go_wp2_with fail
    go_ret
    exact ⟨rfl, rfl⟩
  · have hpos : 0 < s.size := by omega
    obtain ⟨c, hc⟩ : ∃ c, s[0] = c := ⟨_, rfl⟩
    have hne : (s.toList == []) = false := by
      rw [toList_data]; cases hl : s.data.toList with
      | nil => have := len_toList s; rw [hl] at this; simp at this; omega
      | cons x r => rfl
    have hcons : ∃ r, s.data.toList = c :: r := by
      cases hl : s.data.toList with
      | nil => have := len_toList s; rw [hl] at this; simp at this; omega
      | cons x r => refine ⟨r, ?_⟩; have := getElem_toList s 0 hpos; simp only [hl, List.getElem_cons_zero] at this; rw [this, hc]
    have hposi : (0 : Int) < (s.size : Int) := by omega
    cases hsp : specC c
    · have gs : decide (0 ≤ Lib.indexByte [64, 42, 35, 63] c) = false := hsp
      have cI := fun W => cI (c.toNat : Int) W
      simp only [u8_toNat_cast] at cI
      cases hdc : digC c
      · have hV : namedN s.data.toList most = (s.data.toList.takeWhile nmC).length := by obtain ⟨r, hr⟩ := hcons; rw [hr, namedN_cons, hsp, hdc]; rfl
        have gd : digitB (c.toNat : Int) = false := hdc
        have hle := tw_le nmC s.data.toList
        rw [len_toList] at hle
        have HV := hid hV
        have hlt := @tw_lt nmC s.data.toList
        have hst := @tw_stop nmC s.data.toList
        obtain ⟨N, hN⟩ : ∃ N, (s.data.toList.takeWhile nmC).length = N := ⟨_, rfl⟩
        rw [hN] at hle HV
        have hlt : ∀ n (h : n < N) (hl : n < s.size), nmC s[n] = true := fun n h hl => hlt (by omega) (by rw [len_toList]; exact hl)
        have hst : ∀ (hl : N < s.size), nmC s[N] = false := fun hl => by
          have := hst (by rw [hN, len_toList]; exact hl)
          simp only [hN] at this
          exact this
        have HL := hid hlt
        have HS := hid hst
        clear hV hsp hdc hcons hlt hst hN
        go_enter Tryz.func61, Tryz.ntmps61
        go_wp2_with (first
          | (go_at_call 43; (with_reducible refine (cI _).mono ?_); rintro e w1 ⟨rfl, hw⟩; have hw := hw.symm; subst hw)
          | (go_at_call 75; (with_reducible refine (cD _ _).mono ?_); rintro e w1 ⟨rfl, hw⟩; have hw := hw.symm; subst hw))
        go_loopg [5] N (fun k v wr => ∃ n : Nat, v = .int .i64 n ∧ n + k = N ∧ wr = w)
        case atStart => exact ⟨0, rfl, by omega, rfl⟩
        case round =>
          obtain ⟨n, rfl, hnk, rfl⟩ := hrel
          have hn0 : (0 : Int) ≤ (n : Int) := by omega
          have hni : (n : Int) ≤ 281474976710656 := by omega
          cases gk with
          | zero =>
            have hnN : n = N := by omega
            subst hnN
            by_cases hsz : n < s.size
            · have gn : (n : Int) < (s.size : Int) := by omega
              have gn1 : (n : Int) + 1 ≤ (s.size : Int) := by omega
              have hnm := HS.out hsz
              obtain ⟨x, hx⟩ : ∃ x, s[n] = x := ⟨_, rfl⟩
              rw [hx] at hnm
              have hxo : s.extract n (n + 1) = ⟨#[x]⟩ := by rw [ext_one s n hsz, hx]
              have cN := fun W => name_any ⟨#[x]⟩ W (by show (1 : Nat) ≤ maxLen; decide)
              have h1 : digitB (x.toNat : Int) = false := by unfold nmC at hnm; simp at hnm; exact hnm.1
              have h2 : nameL [x] = false := by unfold nmC at hnm; simp at hnm; exact hnm.2
              have cN : ∀ W, Calls Tryz.prog 76 #[.string ⟨#[x]⟩] W fun e w' => e = .returned (.bool false) ∧ W = w' := fun W => by have := cN W; rw [show (⟨#[x]⟩ : ByteArray).data.toList = [x] from rfl, h2] at this; exact this
              have cX := fun W => cD (x.toNat : Int) W
              rw [h1] at cX
              clear hnm h1 h2 HL HS
              go_wp2_with (first
                | (go_at_call 75; (with_reducible refine (cX _).mono ?_); rintro e w1 ⟨rfl, hw⟩; have hw := hw.symm; subst hw)
                | (go_at_call 76; (with_reducible refine (cN _).mono ?_); rintro e w1 ⟨rfl, rfl⟩))
              go_ret
              rw [HV.out]
              exact ⟨rfl, rfl⟩
            · have gn : ¬ (n : Int) < (s.size : Int) := by omega
              clear HL HS hsz
              go_wp2_with fail
              go_ret
              rw [HV.out]
              exact ⟨rfl, rfl⟩
          | succ k =>
            have hsz : n < s.size := by omega
            have gn : (n : Int) < (s.size : Int) := by omega
            have gn1 : (n : Int) + 1 ≤ (s.size : Int) := by omega
            have hnm := HL.out n (by omega) hsz
            obtain ⟨x, hx⟩ : ∃ x, s[n] = x := ⟨_, rfl⟩
            rw [hx] at hnm
            have hxo : s.extract n (n + 1) = ⟨#[x]⟩ := by rw [ext_one s n hsz, hx]
            have cN := fun W => name_any ⟨#[x]⟩ W (by show (1 : Nat) ≤ maxLen; decide)
            have cX := fun W => cD (x.toNat : Int) W
            cases h1 : digitB (x.toNat : Int)
            · have h2 : nameL [x] = true := by unfold nmC at hnm; rw [h1] at hnm; simpa using hnm
              have cN : ∀ W, Calls Tryz.prog 76 #[.string ⟨#[x]⟩] W fun e w' => e = .returned (.bool true) ∧ W = w' := fun W => by have := cN W; rw [show (⟨#[x]⟩ : ByteArray).data.toList = [x] from rfl, h2] at this; exact this
              rw [h1] at cX
              clear hnm h1 h2 HL HS
              go_wp2_with (first
                | (go_at_call 75; (with_reducible refine (cX _).mono ?_); rintro e w1 ⟨rfl, hw⟩; have hw := hw.symm; subst hw)
                | (go_at_call 76; (with_reducible refine (cN _).mono ?_); rintro e w1 ⟨rfl, rfl⟩))
              go_roundg k
              case rel => exact ⟨n + 1, by go_num, by omega, rfl⟩
              case measure => exact Nat.lt_succ_self k
            · rw [h1] at cX
              clear hnm h1 HL HS
              go_wp2_with (go_at_call 75; (with_reducible refine (cX _).mono ?_); rintro e w1 ⟨rfl, hw⟩; have hw := hw.symm; subst hw)
              go_roundg k
              case rel => exact ⟨n + 1, by go_num, by omega, rfl⟩
              case measure => exact Nat.lt_succ_self k
      · have hV : namedN s.data.toList most = min (s.data.toList.takeWhile digC).length most := by obtain ⟨r, hr⟩ := hcons; rw [hr, namedN_cons, hsp, hdc]; rfl
        have gd : digitB (c.toNat : Int) = true := hdc
        have hle := tw_le digC s.data.toList
        rw [len_toList] at hle
        have hlt := @tw_lt digC s.data.toList
        have hst := @tw_stop digC s.data.toList
        have HV := hid hV
        obtain ⟨M, hM⟩ : ∃ M, (s.data.toList.takeWhile digC).length = M := ⟨_, rfl⟩
        rw [hM] at hle HV
        have hlt : ∀ n (h : n < M) (hl : n < s.size), digC s[n] = true := fun n h hl => hlt (by omega) (by rw [len_toList]; exact hl)
        have hst : ∀ (hl : M < s.size), digC s[M] = false := fun hl => by
          have := hst (by rw [hM, len_toList]; exact hl)
          simp only [hM] at this
          exact this
        have HL := hid hlt
        have HS := hid hst
        obtain ⟨N, hN⟩ : ∃ N, min M most = N := ⟨_, rfl⟩
        rw [hN] at HV
        clear hV hsp hdc hcons hlt hst hM
        go_enter Tryz.func61, Tryz.ntmps61
        go_wp2_with (first
          | (go_at_call 43; (with_reducible refine (cI _).mono ?_); rintro e w1 ⟨rfl, hw⟩; have hw := hw.symm; subst hw)
          | (go_at_call 75; (with_reducible refine (cD _ _).mono ?_); rintro e w1 ⟨rfl, hw⟩; have hw := hw.symm; subst hw))
        go_loopg [5] N (fun k v wr => ∃ n : Nat, v = .int .i64 n ∧ n + k = N ∧ wr = w)
        case atStart => exact ⟨0, rfl, by omega, rfl⟩
        case round =>
          obtain ⟨n, rfl, hnk, rfl⟩ := hrel
          have hn0 : (0 : Int) ≤ (n : Int) := by omega
          have hni : (n : Int) ≤ 281474976710656 := by omega
          have hmn0 : (0 : Int) ≤ (most : Int) := by omega
          have hmn : min (most : Int) (s.size : Int) = ((min most s.size : Nat) : Int) := by omega
          cases gk with
          | zero =>
            have hnN : n = N := by omega
            subst hnN
            by_cases hnm : n < most ∧ n < s.size
            · have hnM : n = M := by omega
              subst hnM
              have hsz := hnm.2
              have gn : (n : Int) < (s.size : Int) := by omega
              have gm : (n : Int) < (most : Int) := by omega
              have hdf := HS.out hsz
              obtain ⟨x, hx⟩ : ∃ x, s[n] = x := ⟨_, rfl⟩
              rw [hx] at hdf
              have cX := fun W => cD (x.toNat : Int) W
              rw [show digitB (x.toNat : Int) = false from hdf] at cX
              clear HL HS hdf hN hmn
              go_wp2_with (go_at_call 75; (with_reducible refine (cX _).mono ?_); rintro e w1 ⟨rfl, hw⟩; have hw := hw.symm; subst hw)
              all_goals
                go_ret
                rw [HV.out]
                exact ⟨rfl, rfl⟩
            · clear HL HS hN hmn
              by_cases h1 : n < most
              · have g1 : (s.size : Int) ≤ (n : Int) := by omega
                have g2 : (n : Int) < (most : Int) := by omega
                have g3 : ¬ (n : Int) < (s.size : Int) := by omega
                clear hnm h1
                go_wp2_with fail
                all_goals
                  go_ret
                  rw [HV.out]
                  exact ⟨rfl, rfl⟩
              · have g1 : (most : Int) ≤ (n : Int) := by omega
                have g3 : ¬ (n : Int) < (most : Int) := by omega
                clear hnm h1
                go_wp2_with fail
                all_goals
                  go_ret
                  rw [HV.out]
                  exact ⟨rfl, rfl⟩
          | succ k =>
            have hsz : n < s.size := by omega
            have gn : (n : Int) < (s.size : Int) := by omega
            have gm : (n : Int) < (most : Int) := by omega
            have hdt := HL.out n (by omega) hsz
            obtain ⟨x, hx⟩ : ∃ x, s[n] = x := ⟨_, rfl⟩
            rw [hx] at hdt
            have cX := fun W => cD (x.toNat : Int) W
            rw [show digitB (x.toNat : Int) = true from hdt] at cX
            have HN := hid hnk
            clear HL HS hdt hN hmn hnk
            go_wp2_with (go_at_call 75; (with_reducible refine (cX _).mono ?_); rintro e w1 ⟨rfl, hw⟩; have hw := hw.symm; subst hw)
            all_goals
              go_roundg k
              case rel => exact ⟨n + 1, by go_num, by have := HN.out; omega, rfl⟩
              case measure => exact Nat.lt_succ_self k
    · have hV : namedN s.data.toList most = 1 := by obtain ⟨r, hr⟩ := hcons; rw [hr]; unfold namedN; simp [hsp]
      have gs : decide (0 ≤ Lib.indexByte [64, 42, 35, 63] c) = true := hsp
      have cI := fun W => cI (c.toNat : Int) W
      simp only [u8_toNat_cast] at cI
      have HV := hid hV
      clear hV hsp hcons
      go_enter Tryz.func61, Tryz.ntmps61
      go_wp2_with (go_at_call 43; (with_reducible refine (cI _).mono ?_); rintro e w1 ⟨rfl, rfl⟩)
      go_ret
      rw [HV.out]
      exact ⟨rfl, rfl⟩
end Go.Proofs.YtialepcdbpofkaaGreat
namespace Go.Proofs.YtialepcdbpofkaaGreat
open Go.RowKit
open Go.Lib (hid)
def SubOk (f : Nat) (way : Nat) (s : ByteArray) (bash : Bool) (d p p' : Nat) (b b' : Bg) : Prop :=
  ∀ (N G B : Nat) (F : Nat → Prop) (w : World), B < N → LRd w B s bash p d → BagAt N G F b w →
    Calls Tryz.prog f #[.pointer (some ⟨B, 0, none⟩), .int .i64 way, .pointer (some ⟨G, 0, none⟩)] w fun e w' => e = .returned (.tuple #[]) ∧ PTo N G B F s bash p' d b' w w'
def SubErr (f : Nat) (way : Nat) (s : ByteArray) (bash : Bool) (d p : Nat) (b : Bg) (e0 : Fe) (q : Nat) : Prop :=
  ∀ (N G B : Nat) (F : Nat → Prop) (w : World), B < N → LRd w B s bash p d → BagAt N G F b w →
    Calls Tryz.prog f #[.pointer (some ⟨B, 0, none⟩), .int .i64 way, .pointer (some ⟨G, 0, none⟩)] w fun e w' => e = .panicked [faultL e0 q] ∧ KF (fun k => F k ∨ k = B) w w'
theorem PTo.undrew {N G B : Nat} {F : Nat → Prop} {s : ByteArray} {bash : Bool} {p' d n : Nat} {b' : Bg} {w w' : World} (h : PTo N G B F s bash p' d b' (w.drewN n) w') : PTo N G B F s bash p' d b' w w' := ⟨h.1.undrewN, h.2⟩
set_option maxRecDepth 100000 in
set_option maxHeartbeats 4000000 in
theorem part_dollar_ok (way : Nat) (s : ByteArray) (bash : Bool) (p d : Nat) (p' : Nat) (b b' : Bg) (hp : p < s.size) (hc : s[p] = 36) (h : SubOk 47 way s bash d p p' b b') : StepOk way s bash d p p' b b' := by
  intro N G B F w hB hr hbag
  have hpi : (p : Int) < (s.size : Int) := by omega
  have hp0 : (0 : Int) ≤ (p : Int) := by omega
  have c0 := hr.c0; have c1 := hr.c1
  have cD := fun n => h N G B F (w.drewN n) hB hr (hbag.drewN n)
  clear h hbag
  go_enter Tryz.func37, Tryz.ntmps37
  go_wp2_with fail
  go_quiet (fail)
  all_goals
    go_wp2_with (first
        | fail
        | (go_at_call 47; (with_reducible refine (cD _).mono ?_); rintro e w1 ⟨rfl, hto⟩))
    all_goals
      go_end0
      exact ⟨rfl, hto.undrew⟩
set_option maxRecDepth 100000 in
set_option maxHeartbeats 4000000 in
theorem part_dollar_err (way : Nat) (s : ByteArray) (bash : Bool) (p d : Nat) (b : Bg) (e0 : Fe) (q : Nat) (hp : p < s.size) (hc : s[p] = 36) (h : SubErr 47 way s bash d p b e0 q) : StepErr way s bash d p b e0 q := by
  intro N G B F w hB hr hbag
  have hpi : (p : Int) < (s.size : Int) := by omega
  have hp0 : (0 : Int) ≤ (p : Int) := by omega
  have c0 := hr.c0; have c1 := hr.c1
  have cD := fun n => h N G B F (w.drewN n) hB hr (hbag.drewN n)
  clear h hbag
  go_enter Tryz.func37, Tryz.ntmps37
  go_wp2_with fail
  go_quiet (fail)
  all_goals
    go_wp2_with (first
        | fail
        | (go_at_call 47; (with_reducible refine (cD _).mono ?_); rintro e w1 ⟨rfl, hk1⟩))
    all_goals
      exact ⟨rfl, rfl, hk1.undrewN⟩
set_option maxRecDepth 100000 in
set_option maxHeartbeats 4000000 in
theorem part_escaped_ok (way : Nat) (s : ByteArray) (bash : Bool) (p d : Nat) (p' : Nat) (b b' : Bg) (hp : p < s.size) (hc : s[p] = 92) (h : SubOk 46 way s bash d p p' b b') : StepOk way s bash d p p' b b' := by
  intro N G B F w hB hr hbag
  have hpi : (p : Int) < (s.size : Int) := by omega
  have hp0 : (0 : Int) ≤ (p : Int) := by omega
  have c0 := hr.c0; have c1 := hr.c1
  have cD := fun n => h N G B F (w.drewN n) hB hr (hbag.drewN n)
  clear h hbag
  go_enter Tryz.func37, Tryz.ntmps37
  go_wp2_with fail
  go_quiet (fail)
  all_goals
    go_wp2_with (first
        | fail
        | (go_at_call 46; (with_reducible refine (cD _).mono ?_); rintro e w1 ⟨rfl, hto⟩))
    all_goals
      go_end0
      exact ⟨rfl, hto.undrew⟩
set_option maxRecDepth 100000 in
set_option maxHeartbeats 4000000 in
theorem part_escaped_err (way : Nat) (s : ByteArray) (bash : Bool) (p d : Nat) (b : Bg) (e0 : Fe) (q : Nat) (hp : p < s.size) (hc : s[p] = 92) (h : SubErr 46 way s bash d p b e0 q) : StepErr way s bash d p b e0 q := by
  intro N G B F w hB hr hbag
  have hpi : (p : Int) < (s.size : Int) := by omega
  have hp0 : (0 : Int) ≤ (p : Int) := by omega
  have c0 := hr.c0; have c1 := hr.c1
  have cD := fun n => h N G B F (w.drewN n) hB hr (hbag.drewN n)
  clear h hbag
  go_enter Tryz.func37, Tryz.ntmps37
  go_wp2_with fail
  go_quiet (fail)
  all_goals
    go_wp2_with (first
        | fail
        | (go_at_call 46; (with_reducible refine (cD _).mono ?_); rintro e w1 ⟨rfl, hk1⟩))
    all_goals
      exact ⟨rfl, rfl, hk1.undrewN⟩
theorem beq_nil (l : List UInt8) (h : 0 < l.length) : (l == []) = false := by cases l with
  | nil => simp at h
  | cons x r => rfl
set_option maxRecDepth 100000 in
set_option maxHeartbeats 4000000 in
theorem name_ok (most n : Nat) (s : ByteArray) (bash : Bool) (p d : Nat) (hs : s.size ≤ 281474976710656) (hp : p ≤ s.size) (hm : most ≤ 281474976710656) (hn : namedN (s.data.toList.drop p) most = n) (h0 : 0 < n) (h64 : n ≤ 64) (B : Nat) (w : World) (hr : LRd w B s bash p d) :
    Calls Tryz.prog 62 #[.pointer (some ⟨B, 0, none⟩), .int .i64 most] w fun e w' => e = .returned (encS ((s.data.toList.drop p).take n)) ∧ KF (fun k => k = B) w w' ∧ LRd w' B s bash (p + n) d := by
  have hle := namedN_le (s.data.toList.drop p) most
  rw [hn, List.length_drop, len_toList] at hle
  have c0 := hr.c0; have c1 := hr.c1
  have f1 := hr.free 1
  have hpi : (p : Int) ≤ (s.size : Int) := by omega
  have hp0 : (0 : Int) ≤ (p : Int) := by omega
  have hrs : (s.extract p s.size).size = s.size - p := by rw [ByteArray.size_extract]; omega
  have cN := fun W => named_any (s.extract p s.size) most (by omega) hm W
  rw [ext_from, hn] at cN
  obtain ⟨R, hR⟩ : ∃ R, s.extract p s.size = R := ⟨_, rfl⟩
  have hRl : R.data.toList = s.data.toList.drop p := by rw [← hR, ext_from]
  rw [hR] at cN hrs
  have hRs : (n : Int) ≤ (R.size : Int) := by omega
  have hx : R.extract 0 n = ⟨((s.data.toList.drop p).take n).toArray⟩ := by
    have h := ext_mid R 0 n
    rw [hRl, List.drop_zero, Nat.sub_zero] at h
    rw [← h]
  have hlen : ((s.data.toList.drop p).take n).length = n := by rw [List.length_take, List.length_drop, len_toList]; omega
  have hne1 : (R.toList == []) = false := by rw [toList_data]; exact beq_nil _ (by rw [len_toList]; omega)
  obtain ⟨t, ht⟩ : ∃ t, (s.data.toList.drop p).take n = t := ⟨_, rfl⟩
  rw [ht] at hx hlen
  have hne2 : (t == []) = false := beq_nil _ (by omega)
  have hts : (⟨t.toArray⟩ : ByteArray).size = n := by simp [ByteArray.size, hlen]
  have hn0 : (0 : Int) ≤ (n : Int) := by omega
  have hn64 : ¬ (64 : Int) < (n : Int) := by omega
  have hpn : (p : Int) + (n : Int) ≤ 281474976710656 := by omega
  have cC := fun W => clone_any t (by omega) W
  have HR := hid (And.intro ((KF.refl (fun k => k = B) w).set (.inl rfl) 1 (.int .i64 ((p : Int) + n))) (show LRd (w.setCell ⟨B, 1, none⟩ (.int .i64 ((p : Int) + n))) B s bash (p + n) d from by have := hr.at_ (p + n); rw [show ((p + n : Nat) : Int) = (p : Int) + n by omega] at this; exact this))
  have HT := hid ht
  clear ht hRl hle hn h0 h64 hlen
  go_enter Tryz.func62, Tryz.ntmps62
  go_wp2_with fail
  go_quiet (fail)
  all_goals
    go_wp2_with (first
      | (go_at_call 61; (with_reducible refine (cN _).mono ?_); rintro e w1 ⟨rfl, hw⟩; have hw := hw.symm; subst hw)
      | (go_at_call 32; (with_reducible refine (cC _).mono ?_); rintro e w2 ⟨rfl, hb2⟩))
    go_ret
    rw [HT.out]
    exact ⟨rfl, ⟨hb2.os.trans HR.out.1.os, hb2.tape.trans HR.out.1.tape, hb2.output.trans HR.out.1.output, Nat.le_trans HR.out.1.size hb2.size, fun k hk hkB => (hb2.block k (Nat.lt_of_lt_of_le hk HR.out.1.size)).trans (HR.out.1.block k hk hkB)⟩, HR.out.2.below ⟨hb2.os, hb2.tape, hb2.output, hb2.size, hb2.block⟩⟩
theorem add_one (N G : Nat) (F : Nat → Prop) (b : Bg) (pt : Pt) (w : World) (h : BagAt N G F b w) (hb1 : b.ps.length + 2 ≤ 549755813888) (hb2 : b.tx.length + pt.text.length ≤ 140737488355328) :
    Calls Tryz.prog 50 #[.pointer (some ⟨G, 0, none⟩), .slice (some ⟨w.heap.size, 0, none⟩) 1 1] (w.alloc (.cells (cellsPt pt).toArray 34)) fun e w' => e = .returned (.tuple #[]) ∧ BagTo N G F (addB b [pt]) w w' := by
  have hb := (Below.refl w.heap.size w).alloc (Nat.le_refl _) (.cells (cellsPt pt).toArray 34)
  have hnw := heap_alloc_new w (.cells (cellsPt pt).toArray 34)
  have hsrc : SrcP (w.alloc (.cells (cellsPt pt).toArray 34)) (some ⟨w.heap.size, 0, none⟩) [pt] := fun k hk => by
    obtain rfl : k = 0 := by simpa using hk
    refine ⟨_, _, rfl, fun j v hv => ?_⟩
    rw [Lib.cell_of_heap hnw]
    simpa using hv
  refine (add_any N G F b (some ⟨w.heap.size, 0, none⟩) 1 [pt] _ (h.kept (KF.of_below (F := fun _ => False) hb) (fun _ _ h => h)) hsrc (fun g o e => ?_) (by simp) (fun k hk => ?_)).mono ?_
  · cases e
    exact ⟨fun hf => by have := (h.ge _ hf).2; omega, by simp⟩
  · obtain rfl : k = 0 := by simpa using hk
    exact ⟨hb1, hb2⟩
  · rintro e w' ⟨rfl, hk, F', hF', hbag⟩
    have hk0 : KF F w (w.alloc (.cells (cellsPt pt).toArray 34)) := (KF.refl F w).alloc _
    refine ⟨rfl, hk0.trans hk (fun g hg => .inl hg), F', fun g hg => ?_, hbag⟩
    rcases hF' g hg with h | h
    · exact .inl h
    · exact .inr (by simp at h; omega)
def paramPt (nm : List UInt8) (q : Bool) : Pt := ⟨2, [], nm, [], q, .no, .no, .no, .no, 0⟩
set_option maxRecDepth 100000 in
set_option maxHeartbeats 4000000 in
theorem dollar_param (way n : Nat) (s : ByteArray) (bash : Bool) (p d : Nat) (b : Bg) (hs : s.size ≤ 281474976710656) (hp : p < s.size)
    (h1 : Lib.hasPrefix (s.data.toList.drop (p + 1)) [40, 40] = false) (h2 : Lib.hasPrefix (s.data.toList.drop (p + 1)) [40] = false) (h3 : Lib.hasPrefix (s.data.toList.drop (p + 1)) [123] = false)
    (h4 : bash = false ∨ 3 ≤ way ∨ Lib.hasPrefix (s.data.toList.drop (p + 1)) [39] = false) (hn : namedN (s.data.toList.drop (p + 1)) 1 = n) (h0 : 0 < n) (h64 : n ≤ 64)
    (hb1 : b.ps.length + 2 ≤ 549755813888) (hb2 : b.tx.length ≤ 140737488355328) : SubOk 47 way s bash d p (p + 1 + n) b (addB b [paramPt ((s.data.toList.drop (p + 1)).take n) (decide (3 ≤ way))]) := by
  intro N G B F w hB hr hbag
  have c0 := hr.c0; have c1 := hr.c1; have c2 := hr.c2
  have f1 := hr.free 1
  have hpi : (p : Int) + 1 ≤ (s.size : Int) := by omega
  have hp0 : (0 : Int) ≤ (p : Int) := by omega
  have hp01 : (0 : Int) ≤ (p : Int) + 1 := by omega
  have hsi : (s.size : Int) ≤ 281474976710656 := by omega
  have hwr : IntKind.i64.wrap ((p : Int) + 1) = (p : Int) + 1 := wrap_small (by omega) (by omega)
  have cP := fun q W => Tryz.strings_HasPrefix (s.extract (p + 1) s.size) q W
  have cN := fun W => named_any (s.extract (p + 1) s.size) 1 (by rw [ByteArray.size_extract]; omega) (by omega) W
  rw [ext_from] at cP cN
  rw [hn] at cN
  have cM := fun n' => name_ok 1 n s bash (p + 1) d hs (by omega) (by omega) hn h0 h64 B ((w.drewN n').setCell ⟨B, 1, none⟩ (.int .i64 ((p : Int) + 1))) (by
    have := hr.at_ (p + 1)
    rw [show ((p + 1 : Nat) : Int) = (p : Int) + 1 by omega] at this
    exact this)
  obtain ⟨t, ht⟩ : ∃ t, (s.data.toList.drop (p + 1)).take n = t := ⟨_, rfl⟩
  rw [ht] at cM ⊢
  obtain ⟨R, hR⟩ : ∃ R, s.extract (p + 1) s.size = R := ⟨_, rfl⟩
  rw [hR] at cP cN
  have cP1 : ∀ W, Calls Tryz.prog 56 #[.string R, .string ⟨#[40, 40]⟩] W fun e w' => e = .returned (.bool false) ∧ w' = W := fun W => by have := cP ⟨#[40, 40]⟩ W; rw [show (⟨#[40, 40]⟩ : ByteArray).data.toList = [40, 40] from rfl, h1] at this; exact this
  have cP2 : ∀ W, Calls Tryz.prog 56 #[.string R, .string ⟨#[40]⟩] W fun e w' => e = .returned (.bool false) ∧ w' = W := fun W => by have := cP ⟨#[40]⟩ W; rw [show (⟨#[40]⟩ : ByteArray).data.toList = [40] from rfl, h2] at this; exact this
  have cP3 : ∀ W, Calls Tryz.prog 56 #[.string R, .string ⟨#[123]⟩] W fun e w' => e = .returned (.bool false) ∧ w' = W := fun W => by have := cP ⟨#[123]⟩ W; rw [show (⟨#[123]⟩ : ByteArray).data.toList = [123] from rfl, h3] at this; exact this
  have cP4 : ∀ W, Calls Tryz.prog 56 #[.string R, .string ⟨#[39]⟩] W fun e w' => e = .returned (.bool (Lib.hasPrefix (s.data.toList.drop (p + 1)) [39])) ∧ w' = W := fun W => cP ⟨#[39]⟩ W
  obtain ⟨z, hz⟩ : ∃ z, Lib.hasPrefix (s.data.toList.drop (p + 1)) [39] = z := ⟨_, rfl⟩
  rw [hz] at cP4 h4
  obtain ⟨q, hq⟩ : ∃ q, decide (3 ≤ way) = q := ⟨_, rfl⟩
  have hqi : decide ((3 : Int) ≤ (way : Int)) = q := by rw [← hq]; simp; omega
  rw [hq]
  have hn0 : (0 : Int) < (n : Int) := by omega
  have hpn : (p : Int) + 1 + (n : Int) ≤ 281474976710656 + 281474976710656 := by omega
  have hge : ∀ k, F k → N ≤ k := fun k hk => (hbag.ge k hk).1
  have HB := hid hbag
  have HR := hid hr
  have cN1 : ∀ W, Calls Tryz.prog 61 #[.string R, .int .i64 1] W fun e w' => e = .returned (.int .i64 n) ∧ w' = W := cN
  have cM1 : ∀ n', Calls Tryz.prog 62 #[.pointer (some ⟨B, 0, none⟩), .int .i64 1] ((w.drewN n').setCell ⟨B, 1, none⟩ (.int .i64 ((p : Int) + 1))) fun e w' => e = .returned (encS t) ∧ KF (fun k => k = B) ((w.drewN n').setCell ⟨B, 1, none⟩ (.int .i64 ((p : Int) + 1))) w' ∧ LRd w' B s bash (p + 1 + n) d := cM
  have HT : ∀ W n', KF (fun k => k = B) ((w.drewN n').setCell ⟨B, 1, none⟩ (.int .i64 ((p : Int) + 1))) W → LRd W B s bash (p + 1 + n) d → BagAt N G F b W ∧ ∀ w' b', BagTo N G F b' W w' → PTo N G B F s bash (p + 1 + n) d b' w w' := fun W n' hk hr1 => by
    have hk1 : KF (fun k => k = B) w W := (((KF.refl (fun k => k = B) w).drewN n').set (.inl rfl) _ _).trans hk (fun g hg => .inl hg)
    refine ⟨HB.out.kept hk1 (fun k hk => by have := hge k hk; omega), fun w' b' hto => ?_⟩
    obtain ⟨h1, F1, h2, h3⟩ := hto
    refine ⟨(hk1.mono (G := fun k => F k ∨ k = B) (fun g _ hg => .inr hg)).trans h1 (fun g hg => .inl (.inl hg)), hr1.kept h1 (fun hf => by have := hge B hf; omega), F1, fun g hg => ?_, h3⟩
    rcases h2 g hg with h | h
    · exact .inl h
    · exact .inr (Nat.le_trans hk1.size h)
  have HT := hid HT
  have hqq : q = true ∨ q = false := by cases q <;> simp
  have hcase : bash = false ∨ q = true ∨ z = false := by
    rcases h4 with h | h | h
    · exact .inl h
    · exact .inr (.inl (by rw [← hq]; simpa using h))
    · exact .inr (.inr h)
  clear h1 h2 h3 h4 hn h64 hz hq ht hbag hr cP cN cM hqq
  have hcase2 : q = true ∨ (q = false ∧ bash = false) ∨ (q = false ∧ z = false) := by cases q <;> simp_all
  clear hcase
  rcases hcase2 with rfl | ⟨rfl, rfl⟩ | ⟨rfl, rfl⟩
  all_goals
    go_enter Tryz.func47, Tryz.ntmps47
    go_wp2_with fail
    go_quiet (fail)
    all_goals
      go_wp2_with (first
        | (go_at_call 56; (with_reducible refine (cP1 _).mono ?_); rintro e w1 ⟨rfl, hw⟩; have hw := hw.symm; subst hw)
        | (go_at_call 56; (with_reducible refine (cP2 _).mono ?_); rintro e w1 ⟨rfl, hw⟩; have hw := hw.symm; subst hw)
        | (go_at_call 56; (with_reducible refine (cP3 _).mono ?_); rintro e w1 ⟨rfl, hw⟩; have hw := hw.symm; subst hw)
        | (go_at_call 56; (with_reducible refine (cP4 _).mono ?_); rintro e w1 ⟨rfl, hw⟩; have hw := hw.symm; subst hw)
        | (go_at_call 61; (with_reducible refine (cN1 _).mono ?_); rintro e w1 ⟨rfl, hw⟩; have hw := hw.symm; subst hw)
        | (go_at_call 62; (with_reducible refine (cM1 _).mono ?_); rintro e w2 ⟨rfl, hk2, hr2⟩; obtain ⟨hbg2, HT2⟩ := HT.out w2 _ hk2 hr2)
        | (go_at_call 50; refine (add_one N G F b (paramPt t _) w2 hbg2 hb1 hb2).mono ?_; rintro e w3 ⟨rfl, hto⟩))
      all_goals
        go_end0
        exact ⟨rfl, HT2 _ _ hto⟩
end Go.Proofs.YtialepcdbpofkaaGreat
namespace Go.Proofs.YtialepcdbpofkaaGreat
open Go.RowKit
open Go.Lib (hid)
set_option maxRecDepth 100000 in
set_option maxHeartbeats 4000000 in
theorem part_double (way : Nat) (hway : way ≤ 2) (s : ByteArray) (bash : Bool) (p d n q : Nat) (b bq : Bg) (hs : s.size ≤ 281474976710656) (hp : p < s.size) (hc : s[p] = 34) (hrun : Run 3 s bash d n (p + 1) Bg.new (.ok (q, bq))) (hsm : bq.ps.length ≤ 549755813888) (hq : q ≤ 281474976710656)
    (hsz : ∀ k (hk : k < (quotedL (closeB bq).ps).length), (addB b ((quotedL (closeB bq).ps).take k)).ps.length + 2 ≤ 549755813888 ∧ (addB b ((quotedL (closeB bq).ps).take k)).tx.length + (quotedL (closeB bq).ps)[k].text.length ≤ 140737488355328)
    (hlc : (quotedL (closeB bq).ps).length ≤ 1099511627776) : StepOk way s bash d p (q + 1) b (addB b (quotedL (closeB bq).ps)) := by
  intro N G B F w hB hr hbag
  have hw3 : (way : Int) < 3 := by omega
  have hw4 : ((way : Int) == 4) = false := by simp; omega
  have hpi : (p : Int) < (s.size : Int) := by omega
  have hp0 : (0 : Int) ≤ (p : Int) := by omega
  have hsi : (s.size : Int) ≤ 281474976710656 := by omega
  have c0 := hr.c0; have c1 := hr.c1
  have f1 := hr.free 1
  have hge : ∀ k, F k → N ≤ k ∧ k < w.heap.size := hbag.ge
  have cQ : ∀ n', Calls Tryz.prog 34 #[.pointer (some ⟨B, 0, none⟩), .int .i64 3] ((w.drewN n').setCell ⟨B, 1, none⟩ (.int .i64 ((p : Int) + 1))) (LPost B s bash d ((w.drewN n').setCell ⟨B, 1, none⟩ (.int .i64 ((p : Int) + 1))) (.ok (q, quotedL (closeB bq).ps))) := fun n' =>
    quotes_run 3 (by omega) s hs bash d n (p + 1) _ hrun (fun q' b' h => by cases h; exact hsm) B _ (by
      have := hr.at_ (p + 1)
      rw [show ((p + 1 : Nat) : Int) = (p : Int) + 1 by omega] at this
      exact this)
  generalize quotedL (closeB bq).ps = l at *
  have hqi : (0 : Int) ≤ (q : Int) := by omega
  have HT : ∀ W n' (A : Option Addr) (c : Nat), Kept B ((w.drewN n').setCell ⟨B, 1, none⟩ (.int .i64 ((p : Int) + 1))) W → LRd W B s bash q d → W.ownsRow ((w.drewN n').setCell ⟨B, 1, none⟩ (.int .i64 ((p : Int) + 1))).heap.size 34 10 (.slice A l.length c) l.length (rowPt l) →
      Calls Tryz.prog 50 #[.pointer (some ⟨G, 0, none⟩), .slice A l.length c] W fun e w' => e = .returned (.tuple #[]) ∧ LRd w' B s bash q d ∧ PTo N G B F s bash (q + 1) d (addB b l) w (w'.setCell ⟨B, 1, none⟩ (.int .i64 ((q : Int) + 1))) := fun W n' A c hk hr1 ho => by
    have hk1 : KF (fun k => k = B) w W := (((KF.refl (fun k => k = B) w).drewN n').set (.inl rfl) _ _).trans (KF.of_kept hk) (fun g hg => .inl hg)
    have hszw : ((w.drewN n').setCell ⟨B, 1, none⟩ (.int .i64 ((p : Int) + 1))).heap.size = w.heap.size := by show (w.setCell ⟨B, 1, none⟩ (.int .i64 ((p : Int) + 1))).heap.size = _; simp [World.setCell]
    rw [hszw] at ho
    have hb1 : BagAt N G F b W := hbag.kept hk1 (fun k hk => by have := (hge k hk).1; omega)
    refine (add_any N G F b A c l W hb1 (own_src ho rfl) (fun g o e => ?_) hlc hsz).mono ?_
    · subst e
      have hg := (ho.lt g rfl).1
      obtain ⟨cur, hcur⟩ := own_type (g := g) ho rfl
      exact ⟨fun hf => by have := (hge g hf).2; omega, lt_of_block hcur⟩
    · rintro e w' ⟨rfl, hto⟩
      obtain ⟨hr3, hp3⟩ := hto.step (p := q) (p' := q + 1) (w := W) hr1 hB (fun k hk => (hge k hk).1)
      refine ⟨rfl, hr3, ?_⟩
      rw [show (((q + 1 : Nat)) : Int) = (q : Int) + 1 by omega] at hp3
      obtain ⟨h1, h2, F1, h3, h4⟩ := hp3
      refine ⟨(hk1.mono (G := fun k => F k ∨ k = B) (fun g _ hg => .inr hg)).trans h1 (fun g hg => .inl hg), h2, F1, fun g hg => ?_, h4⟩
      rcases h3 g hg with h | h
      · exact .inl h
      · exact .inr (Nat.le_trans hk1.size h)
  have HT := hid HT
  clear hrun hsm hsz hlc hbag hr hge
  go_enter Tryz.func37, Tryz.ntmps37
  go_wp2_with fail
  go_quiet (fail)
  all_goals
    go_wp2_with (first
      | (go_at_call 34; (with_reducible refine (cQ _).mono ?_); rintro e w1 ⟨hk1, hr1, vp, rfl, ho⟩; obtain ⟨ap, cp, rfl, -⟩ := own_form ho; have cA := HT.out w1 _ ap cp hk1 hr1 ho)
      | (go_at_call 50; (with_reducible refine cA.mono ?_); rintro e w2 ⟨rfl, hr2, hpt⟩; have k1 := hr2.c1; have kf := hr2.free 1))
    go_end0
    exact ⟨rfl, hpt⟩
end Go.Proofs.YtialepcdbpofkaaGreat
namespace Go.Proofs.YtialepcdbpofkaaGreat
open Go.RowKit
open Go.Lib (hid)
theorem run_assert_faultL (v : Value) (w : World) : (Instr.typeAssert (.iface 50 v) 20 50 false).run Tryz.prog w = .ok v w := by
  simp [Instr.typeAssert, run_underlying Tryz.underlying50, go_sem, Result.andThen]
theorem caught_idle (a b : Addr) (w : World) :
    CallsD Tryz.prog 35 #[.pointer (some a), .pointer (some b)] .returning w fun e u' w' => e = .returned (.tuple #[]) ∧ u' = .returning ∧ w' = w := by
  refine callsD_of_wpS Tryz.func35 rfl fun c₀ cs hu => ?_
  apply wpS_seq
  apply wpS_region
  simp [wpOpsS, go_sem, recoverD, hu, Tryz.ntmps35, Exit.thenS]
  refine wpS_of_wp ?_
  go_wp2
  cases c₀
  simp_all [bodyPostS, results, Tryz.results35]
def Res2 (A1 A2 : Nat) (v : Value) (e : Fe) (p : Int) (w : World) : Prop :=
  w.heap[A1]? = some (.cells #[v] 23 (0, 0)) ∧ w.heap[A2]? = some (.cells #[.int .i64 e.e, .int .i64 p, .bool e.sm] 50 (0, 0))
set_option maxHeartbeats 2000000 in
theorem caught_panic (A1 A2 : Nat) (v : Value) (e0 : Fe) (p0 : Int) (e : Fe) (p : Int) (older : List PanicEntry) (w : World) (h : Res2 A1 A2 v e0 p0 w) :
    CallsD Tryz.prog 35 #[.pointer (some ⟨A1, 0, none⟩), .pointer (some ⟨A2, 0, none⟩)] (.panicking (faultL e p :: older)) w fun e' u' w' =>
      e' = .returned (.tuple #[]) ∧ u' = .panicking ({ faultL e p with recovered := true } :: older) ∧ Res2 A1 A2 (.slice none 0 0) e p w' ∧ KF (fun k => k = A1 ∨ k = A2) w w' := by
  have hta := run_assert_faultL
  refine callsD_of_wpS Tryz.func35 rfl fun c₀ cs hu => ?_
  apply wpS_seq
  apply wpS_region
  simp [wpOpsS, go_sem, recoverD, hu, Tryz.ntmps35, Exit.thenS, faultL]
  refine wpS_of_wp ?_
  have a0 : w.cell? ⟨A1, 0, none⟩ = some v := by rw [Lib.cell_of_heap h.1]; rfl
  have b0 : w.cell? ⟨A2, 0, none⟩ = some (.int .i64 e0.e) := by rw [Lib.cell_of_heap h.2]; rfl
  have b1 : w.cell? ⟨A2, 1, none⟩ = some (.int .i64 p0) := by rw [Lib.cell_of_heap h.2]; rfl
  have b2 : w.cell? ⟨A2, 2, none⟩ = some (.bool e0.sm) := by rw [Lib.cell_of_heap h.2]; rfl
  have f0 := Lib.frozen_of_heap h.1 0
  have f1 := Lib.frozen_of_heap h.2 0
  have f2 := Lib.frozen_of_heap h.2 1
  have f3 := Lib.frozen_of_heap h.2 2
  have hne : A1 ≠ A2 := fun hh => by have h1 := h.1; rw [hh, h.2] at h1; simp at h1
  change Code.wp _ _ _ ⟨#[.pointer (some ⟨A1, 0, none⟩), .pointer (some ⟨A2, 0, none⟩), .iface 50 (.agg #[.int .i64 e.e, .int .i64 p, .bool e.sm]), .iface 50 (.agg #[.int .i64 e.e, .int .i64 p, .bool e.sm]), undef, undef, undef, undef], []⟩ _
  have HS : Hid (Res2 A1 A2 (.slice none 0 0) e p ((((w.setCell ⟨A1, 0, none⟩ (.slice none 0 0)).setCell ⟨A2, 0, none⟩ (.int .i64 e.e)).setCell ⟨A2, 1, none⟩ (.int .i64 p)).setCell ⟨A2, 2, none⟩ (.bool e.sm)) ∧ KF (fun k => k = A1 ∨ k = A2) w ((((w.setCell ⟨A1, 0, none⟩ (.slice none 0 0)).setCell ⟨A2, 0, none⟩ (.int .i64 e.e)).setCell ⟨A2, 1, none⟩ (.int .i64 p)).setCell ⟨A2, 2, none⟩ (.bool e.sm))) := hid (by
    refine ⟨⟨?_, ?_⟩, ((((KF.refl _ w).set (.inl (.inl rfl)) _ _).set (.inl (.inr rfl)) _ _).set (.inl (.inr rfl)) _ _).set (.inl (.inr rfl)) _ _⟩
    · rw [Below.heap_setCell _ _ _ _ hne, Below.heap_setCell _ _ _ _ hne, Below.heap_setCell _ _ _ _ hne, heap_setCell_same _ _ _ _ _ _ h.1]; rfl
    · rw [heap_setCell_same _ _ _ _ _ _ (heap_setCell_same _ _ _ _ _ _ (heap_setCell_same _ _ _ _ _ _ ((Below.heap_setCell _ _ _ _ (Ne.symm hne)).trans h.2)))]; rfl)
  clear h hu
  go_wp2_with fail
  go_region
  all_goals
    change bodyPostS _ _ _ _ _ _ _ _ _
    cases c₀
    simp [bodyPostS, results, Tryz.results35]
    exact ⟨HS.out.1, HS.out.2.drew⟩
theorem own_base {w : World} {N N' e k n : Nat} {v : Value} {xs : List Value} (h : w.ownsRow N e k v n xs) (hN : N' ≤ N) : w.ownsRow N' e k v n xs := by
  refine ⟨h.1, ?_⟩
  rcases h.2 with h0 | ⟨g, cap, cur, hv, h1, h2⟩
  · exact .inl h0
  · exact .inr ⟨g, cap, cur, hv, by omega, h2⟩
def Res2z (w : World) : World := (w.alloc (.cells #[.slice none 0 0] 23)).alloc (.cells #[.int .i64 0, .int .i64 0, .bool false] 50)
theorem res2_z (w : World) : Res2 w.heap.size (w.heap.size + 1) (.slice none 0 0) 0 0 (Res2z w) := by
  have h1 := heap_alloc_new w (.cells #[.slice none 0 0] 23)
  have h2 := heap_alloc_new (w.alloc (.cells #[.slice none 0 0] 23)) (.cells #[.int .i64 0, .int .i64 0, .bool false] 50)
  simp only [World.size_alloc] at h2
  exact ⟨(Below.heap_alloc _ _ _ (by simp)).trans h1, h2⟩
theorem res2z_size (w : World) : (Res2z w).heap.size = w.heap.size + 2 := by simp [Res2z]
theorem res2z_kf (F : Nat → Prop) (w : World) : KF F w (Res2z w) := ((KF.refl F w).alloc _).alloc _
theorem Res2.kept {A1 A2 : Nat} {v : Value} {e : Fe} {p : Int} {w w' : World} {F : Nat → Prop} (h : Res2 A1 A2 v e p w) (hk : KF F w w') (h1 : ¬ F A1) (h2 : ¬ F A2) : Res2 A1 A2 v e p w' :=
  ⟨(hk.block A1 (lt_of_block h.1) h1).trans h.1, (hk.block A2 (lt_of_block h.2) h2).trans h.2⟩
def CPost (B : Nat) (s : ByteArray) (bash : Bool) (d : Nat) (w : World) : Except (Fe × Nat) (Nat × (List Pt → Prop)) → Ending → World → Prop
  | .ok (q, P), e, w' => Kept B w w' ∧ LRd w' B s bash q d ∧ ∃ vp l, P l ∧ e = .returned (.tuple #[vp, .agg #[.int .i64 0, .int .i64 0, .bool false]]) ∧ w'.ownsRow w.heap.size 34 10 vp l.length (rowPt l)
  | .error (e0, q), e, w' => Kept B w w' ∧ e = .returned (.tuple #[.slice none 0 0, .agg #[.int .i64 e0.e, .int .i64 q, .bool e0.sm]])
set_option maxHeartbeats 2000000 in
theorem caught_any (g : Nat) (fi lb : Array Value) (eg : ∀ args w, (callFunc g args).run Tryz.prog w = .ok (.enter g args) w) (B : Nat) (s : ByteArray) (bash : Bool) (p d : Nat) (w : World) (hr : LRd w B s bash p d) (r : Except (Fe × Nat) (Nat × (List Pt → Prop)))
    (hc : ∀ W, Kept B w W → LRd W B s bash p d → Calls Tryz.prog g (fi ++ lb) W (LPostS B s bash d W r)) :
    Calls Tryz.prog 19 #[.func (.func g) fi lb] w (CPost B s bash d w r) := by
  have hmf : ∀ (fn : Fn) (first cap : Array Value) (w : World), (Instr.makeFunc fn first cap).run Tryz.prog w = .ok (.func fn first cap) w := fun _ _ _ _ => rfl
  have hZ := res2_z w
  have hZs := res2z_size w
  have hBw := hr.lt
  have hZk := res2z_kf (fun k => k = B) w
  have hr1 : LRd (Res2z w) B s bash p d := hr.kept (res2z_kf (fun _ => False) w) (fun h => h)
  have hcc := hc (Res2z w) hZk.kept hr1
  unfold Res2z at *
  go_enter_defers Tryz.func19, Tryz.ntmps19
  go_wp2_with fail
  generalize (w.alloc (.cells #[.slice none 0 0] 23)).alloc (.cells #[.int .i64 0, .int .i64 0, .bool false] 50) = W at *
  clear hc hmf
  cases r with
  | error y =>
    obtain ⟨e0, q⟩ := y
    refine hcc.mono ?_
    rintro e w1 ⟨hk1, rfl⟩
    have hR1 := hZ.kept (KF.of_kept hk1) (by omega) (by omega)
    have hkk := (hZk.trans (KF.of_kept hk1) (fun g hg => .inl hg))
    clear hZ hZk hr1 hcc
    go_wp2_with fail
    refine leaves_cons (f := 35) (args := #[.pointer (some ⟨w.heap.size, 0, none⟩), .pointer (some ⟨w.heap.size + 1, 0, none⟩)]) (by simp) (by simp [go_sem]) ?_
    refine (caught_panic _ _ _ _ _ e0 q [] _ hR1).mono ?_
    rintro e' u' w2 ⟨rfl, rfl, hS, hk3⟩
    have l0 : w2.cell? ⟨w.heap.size, 0, none⟩ = some (.slice none 0 0) := by rw [Lib.cell_of_heap hS.1]; rfl
    have l1 : w2.cell? ⟨w.heap.size + 1, 0, none⟩ = some (.int .i64 e0.e) := by rw [Lib.cell_of_heap hS.2]; rfl
    have l3 : w2.cell? ⟨w.heap.size + 1, 2, none⟩ = some (.bool e0.sm) := by rw [Lib.cell_of_heap hS.2]; rfl
    have l2 : w2.cell? ⟨w.heap.size + 1, 1, none⟩ = some (.int .i64 q) := by rw [Lib.cell_of_heap hS.2]; rfl
    have HB := hid ((hkk.trans hk3 (fun g hg => .inr (by omega))).kept)
    clear hS hk3 hR1 hkk
    simp [Leaves, settle, results, Tryz.results19, go_sem, l0, l1, l2, l3]
    exact ⟨HB.out, rfl⟩
  | ok y =>
    obtain ⟨q, P⟩ := y
    refine hcc.mono ?_
    rintro e w1 ⟨hk1, hr2, vp, l, hPl, rfl, ho⟩
    obtain ⟨ap, cp, rfl, -⟩ := own_form ho
    have hR1 := hZ.kept (KF.of_kept hk1) (by omega) (by omega)
    have hkk := (hZk.trans (KF.of_kept hk1) (fun g hg => .inl hg))
    have a0 : w1.cell? ⟨w.heap.size, 0, none⟩ = some (.slice none 0 0) := by rw [Lib.cell_of_heap hR1.1]; rfl
    have b0 : w1.cell? ⟨w.heap.size + 1, 0, none⟩ = some (.int .i64 0) := by rw [Lib.cell_of_heap hR1.2]; rfl
    have b1 : w1.cell? ⟨w.heap.size + 1, 1, none⟩ = some (.int .i64 0) := by rw [Lib.cell_of_heap hR1.2]; rfl
    have b2 : w1.cell? ⟨w.heap.size + 1, 2, none⟩ = some (.bool false) := by rw [Lib.cell_of_heap hR1.2]; rfl
    have f0 := Lib.frozen_of_heap hR1.1 0
    have f1 := Lib.frozen_of_heap hR1.2 0
    have f2 := Lib.frozen_of_heap hR1.2 1
    have f3 := Lib.frozen_of_heap hR1.2 2
    clear hZ hZk hr1 hcc
    go_wp2_with fail
    have hS : Res2 w.heap.size (w.heap.size + 1) (.slice ap l.length cp) 0 0 ((((w1.setCell ⟨w.heap.size, 0, none⟩ (.slice ap l.length cp)).setCell ⟨w.heap.size + 1, 0, none⟩ (.int .i64 0)).setCell ⟨w.heap.size + 1, 1, none⟩ (.int .i64 0)).setCell ⟨w.heap.size + 1, 2, none⟩ (.bool false)) := by
      refine ⟨?_, ?_⟩
      · rw [Below.heap_setCell _ _ _ _ (by show w.heap.size ≠ w.heap.size + 1; omega), Below.heap_setCell _ _ _ _ (by show w.heap.size ≠ w.heap.size + 1; omega), Below.heap_setCell _ _ _ _ (by show w.heap.size ≠ w.heap.size + 1; omega), heap_setCell_same _ _ _ _ _ _ hR1.1]; rfl
      · rw [heap_setCell_same _ _ _ _ _ _ (heap_setCell_same _ _ _ _ _ _ (heap_setCell_same _ _ _ _ _ _ ((Below.heap_setCell _ _ _ _ (by show w.heap.size + 1 ≠ w.heap.size; omega)).trans hR1.2)))]; rfl
    have hk4 : KF (fun k => k = w.heap.size ∨ k = w.heap.size + 1) w1 ((((w1.setCell ⟨w.heap.size, 0, none⟩ (.slice ap l.length cp)).setCell ⟨w.heap.size + 1, 0, none⟩ (.int .i64 0)).setCell ⟨w.heap.size + 1, 1, none⟩ (.int .i64 0)).setCell ⟨w.heap.size + 1, 2, none⟩ (.bool false)) := ((((KF.refl _ w1).set (.inl (.inl rfl)) _ _).set (.inl (.inr rfl)) _ _).set (.inl (.inr rfl)) _ _).set (.inl (.inr rfl)) _ _
    generalize (((w1.setCell ⟨w.heap.size, 0, none⟩ (.slice ap l.length cp)).setCell ⟨w.heap.size + 1, 0, none⟩ (.int .i64 0)).setCell ⟨w.heap.size + 1, 1, none⟩ (.int .i64 0)).setCell ⟨w.heap.size + 1, 2, none⟩ (.bool false) = W3 at *
    have l0 : W3.cell? ⟨w.heap.size, 0, none⟩ = some (.slice ap l.length cp) := by rw [Lib.cell_of_heap hS.1]; rfl
    have l1 : W3.cell? ⟨w.heap.size + 1, 0, none⟩ = some (.int .i64 0) := by rw [Lib.cell_of_heap hS.2]; rfl
    have l2 : W3.cell? ⟨w.heap.size + 1, 1, none⟩ = some (.int .i64 0) := by rw [Lib.cell_of_heap hS.2]; rfl
    have l3 : W3.cell? ⟨w.heap.size + 1, 2, none⟩ = some (.bool false) := by rw [Lib.cell_of_heap hS.2]; rfl
    have hkk2 := (hkk.trans hk4 (fun g hg => .inr (by omega))).kept
    have hr4 : LRd W3 B s bash q d := hr2.kept hk4 (by omega)
    have ho4 : W3.ownsRow w.heap.size 34 10 (.slice ap l.length cp) l.length (rowPt l) := own_base (own_keptE ho fun g hg => by
      have h1 := (ho.lt g hg).1
      obtain ⟨cur, hc⟩ := own_type ho hg
      exact hk4.block g (lt_of_block hc) (by omega)) (by omega)
    have HB := hid (And.intro hkk2 (And.intro hr4 ho4))
    clear a0 b0 b1 b2 f0 f1 f2 f3 hS hk4 hkk2 hr4 ho4 hkk hR1 hk1 hr2 ho
    refine leaves_cons (f := 35) (args := #[.pointer (some ⟨w.heap.size, 0, none⟩), .pointer (some ⟨w.heap.size + 1, 0, none⟩)]) (by simp) (by simp [go_sem]) ?_
    refine (caught_idle _ _ _).mono ?_
    rintro e' u' w2 ⟨rfl, rfl, rfl⟩
    simp [Leaves, settle, results, Tryz.results19, go_sem, l0, l1, l2, l3]
    exact ⟨HB.out.1, HB.out.2.1, _, l, hPl, rfl, HB.out.2.2⟩
theorem inside_zero (s : ByteArray) (w : World) : Calls Tryz.prog 18 #[.string s, .int .i64 0] w fun e w' => e = .returned (.int .i64 0) ∧ w' = w := by
  have h0 : (0 : Int) ≤ (s.size : Int) := by omega
  have h1 : ¬ (s.size : Int) < 0 := by omega
  go_enter Tryz.func18, Tryz.ntmps18
  go_wp2_with fail
  go_ret
  first
    | exact ⟨rfl, rfl⟩
    | trace_state
set_option maxHeartbeats 2000000 in
theorem wordfn_any (s : ByteArray) (bash : Bool) (d : Nat) (q : Except (Fe × Nat) (Nat × (List Pt → Prop))) (B : Nat) (w : World)
    (cP : Calls Tryz.prog 21 #[.pointer (some ⟨B, 0, none⟩), .int .i64 0] w (LPostS B s bash d w q)) :
    Calls Tryz.prog 20 #[.pointer (some ⟨B, 0, none⟩)] w (LPostS B s bash d w q) := by
  cases q with
  | error y =>
    obtain ⟨e0, q⟩ := y
    go_enter Tryz.func20, Tryz.ntmps20
    go_wp2_with (go_at_call 21; (with_reducible refine cP.mono ?_); rintro e w1 ⟨hk1, rfl⟩)
    exact ⟨rfl, hk1, rfl⟩
  | ok y =>
    obtain ⟨q, P⟩ := y
    go_enter Tryz.func20, Tryz.ntmps20
    go_wp2_with (go_at_call 21; (with_reducible refine cP.mono ?_); rintro e w1 ⟨hk1, hr1, vp, l, hPl, rfl, ho⟩; obtain ⟨ap, cp, rfl, -⟩ := own_form ho)
    go_ret
    exact ⟨hk1, hr1, _, l, hPl, rfl, ho⟩
end Go.Proofs.YtialepcdbpofkaaGreat
namespace Go.Proofs.YtialepcdbpofkaaGreat
open Go.RowKit
open Go.Lib (hid)
theorem enters_word : ∀ args w, (callFunc 20 args).run Tryz.prog w = .ok (.enter 20 args) w := enters_of Tryz.func20 (by kernel_rfl) rfl
def earlyB (e : Fe) : Bool := !e.sm && (e.e == 33 || e.e == 8)
set_option maxRecDepth 100000 in
set_option maxHeartbeats 2000000 in
theorem early_any (e : Fe) (p : Int) (w : World) :
    Calls Tryz.prog 22 #[.agg #[.int .i64 e.e, .int .i64 p, .bool e.sm]] w fun x w' => x = .returned (.bool (earlyB e)) ∧ Below w.heap.size w w' := by
  obtain ⟨e, sm⟩ := e
  have hb0 : Below w.heap.size w (w.alloc (.cells #[.int .i64 e, .int .i64 p, .bool sm] 50)) := (Below.refl _ _).alloc (Nat.le_refl _) _
  have hn0 : (w.alloc (.cells #[.int .i64 e, .int .i64 p, .bool sm] 50)).heap[w.heap.size]? = some (.cells #[.int .i64 e, .int .i64 p, .bool sm] 50 (0, 0)) := heap_alloc_new w _
  have k0 : (w.alloc (.cells #[.int .i64 e, .int .i64 p, .bool sm] 50)).cell? ⟨w.heap.size, 0, none⟩ = some (.int .i64 e) := by rw [Lib.cell_of_heap hn0]; rfl
  have k2 : (w.alloc (.cells #[.int .i64 e, .int .i64 p, .bool sm] 50)).cell? ⟨w.heap.size, 2, none⟩ = some (.bool sm) := by rw [Lib.cell_of_heap hn0]; rfl
  clear hn0
  unfold earlyB
  obtain ⟨x, hx⟩ : ∃ x, (e == 33) = x := ⟨_, rfl⟩
  obtain ⟨y, hy⟩ : ∃ y, (e == 8) = y := ⟨_, rfl⟩
  show Calls _ _ _ _ fun r w' => r = .returned (.bool (!sm && ((e == 33) || (e == 8)))) ∧ Below w.heap.size w w'
  rw [hx, hy]
  cases sm <;> cases x <;> cases y
  all_goals
    go_enter Tryz.func22, Tryz.ntmps22
    go_wp2_with fail
    go_ret
    exact ⟨rfl, hb0⟩
def WPostS (n : Nat) (w : World) : Except (Fe × Nat) (Nat × (List Pt → Prop)) → Ending → World → Prop
  | .ok (q, P), e, w' => Below w.heap.size w w' ∧ if n ≤ 65536 then ∃ A c l, P l ∧ e = .returned (.tuple #[.agg #[.slice A l.length c], .int .i64 q, .int .i64 0]) ∧ w'.ownsRow w.heap.size 34 10 (.slice A l.length c) l.length (rowPt l)
      else e = .returned (.tuple #[.agg #[.slice none 0 0], .int .i64 0, .int .i64 5])
  | .error (e0, q), e, w' => Below w.heap.size w w' ∧ if n ≤ 65536 ∨ earlyB e0 = true then e = .returned (.tuple #[.agg #[.slice none 0 0], .int .i64 q, .int .i64 e0.e]) else e = .returned (.tuple #[.agg #[.slice none 0 0], .int .i64 0, .int .i64 5])
def WPost (n : Nat) (w : World) (r : Except (Fe × Nat) (Nat × List Pt)) : Ending → World → Prop := WPostS n w (oneE r)
set_option maxRecDepth 100000 in
set_option maxHeartbeats 4000000 in
theorem word_anyS (s : ByteArray) (hs : s.size ≤ 281474976710656) (bash : Bool) (t : Except (Fe × Nat) (Nat × (List Pt → Prop)))
    (hparts : ∀ B W, LRd W B s bash 0 0 → Calls Tryz.prog 21 #[.pointer (some ⟨B, 0, none⟩), .int .i64 0] W (LPostS B s bash 0 W t))
    (herr2 : ∀ e q, t = .error (e, q) → e.e ≠ 0) (hq2 : ∀ q P, t = .ok (q, P) → q ≤ s.size) (w : World) :
    Calls Tryz.prog 10 #[.string s, .int .i64 0, .bool bash] w (WPostS s.size w t) := by
  have hmf : ∀ (fn : Fn) (first cap : Array Value) (w : World), (Instr.makeFunc fn first cap).run Tryz.prog w = .ok (.func fn first cap) w := fun _ _ _ _ => rfl
  have cI := fun W => inside_zero s W
  have hW : LRd ((w.alloc (.cells #[.slice none 0 0] 25)).alloc (.cells #[.string s, .int .i64 0, .bool bash, .int .i64 0] 48)) (w.heap.size + 1) s bash 0 0 := by
    have := heap_alloc_new (w.alloc (.cells #[.slice none 0 0] 25)) (.cells #[.string s, .int .i64 0, .bool bash, .int .i64 0] 48)
    simp only [World.size_alloc] at this
    exact this
  have hword : ((w.alloc (.cells #[.slice none 0 0] 25)).alloc (.cells #[.string s, .int .i64 0, .bool bash, .int .i64 0] 48)).heap[w.heap.size]? = some (.cells #[.slice none 0 0] 25 (0, 0)) := (Below.heap_alloc _ _ _ (by simp)).trans (heap_alloc_new _ _)
  have hbl : Below w.heap.size w ((w.alloc (.cells #[.slice none 0 0] 25)).alloc (.cells #[.string s, .int .i64 0, .bool bash, .int .i64 0] 48)) := ((Below.refl _ _).alloc (Nat.le_refl _) _).alloc (by simp) _
  have hsz2 : ((w.alloc (.cells #[.slice none 0 0] 25)).alloc (.cells #[.string s, .int .i64 0, .bool bash, .int .i64 0] 48)).heap.size = w.heap.size + 2 := by simp
  have cC := caught_any 20 #[] #[.pointer (some ⟨w.heap.size + 1, 0, none⟩)] enters_word (w.heap.size + 1) s bash 0 0 _ hW t (fun W _ hr => wordfn_any s bash 0 t (w.heap.size + 1) W (hparts _ W hr))
  clear hparts
  go_enter Tryz.func10, Tryz.ntmps10
  go_wp2_with (go_at_call 18; (with_reducible refine (cI _).mono ?_); rintro e w1 ⟨rfl, rfl⟩)
  generalize (w.alloc (.cells #[.slice none 0 0] 25)).alloc (.cells #[.string s, .int .i64 0, .bool bash, .int .i64 0] 48) = W at *
  cases t with
  | error y =>
    obtain ⟨e0, q⟩ := y
    have he0 : (e0.e == 0) = false := by simpa using herr2 e0 q rfl
    refine cC.mono ?_
    rintro e w1 ⟨hk1, rfl⟩
    have hv1 : w1.heap[w.heap.size]? = some (.cells #[.slice none 0 0] 25 (0, 0)) := (hk1.block _ (by omega) (by omega)).trans hword
    have hs1 := hk1.size
    obtain ⟨W2, hW2⟩ : ∃ W2, w1.alloc (.cells #[.int .i64 e0.e, .int .i64 q, .bool e0.sm] 50) = W2 := ⟨_, rfl⟩
    have hb2 : Below w1.heap.size w1 W2 := by rw [← hW2]; exact (Below.refl _ _).alloc (Nat.le_refl _) _
    have hf2 : W2.heap[w1.heap.size]? = some (.cells #[.int .i64 e0.e, .int .i64 q, .bool e0.sm] 50 (0, 0)) := by rw [← hW2]; exact heap_alloc_new _ _
    have hv2 : W2.heap[w.heap.size]? = some (.cells #[.slice none 0 0] 25 (0, 0)) := heap_below' hv1 hb2
    have g0 : W2.cell? ⟨w1.heap.size, 0, none⟩ = some (.int .i64 e0.e) := by rw [Lib.cell_of_heap hf2]; rfl
    have g1 : W2.cell? ⟨w1.heap.size, 1, none⟩ = some (.int .i64 q) := by rw [Lib.cell_of_heap hf2]; rfl
    have v0 : W2.cell? ⟨w.heap.size, 0, none⟩ = some (.slice none 0 0) := by rw [Lib.cell_of_heap hv2]; rfl
    have vf := Lib.frozen_of_heap hv2 0
    have hbb : Below w.heap.size w W2 := (hbl.trans (hk1.below (by omega) (by omega))).trans (hb2.mono (by omega))
    have HB := hid (And.intro (hbb.setCell (p := ⟨w.heap.size, 0, none⟩) (Nat.le_refl _) (.slice none 0 0)) (show (W2.setCell ⟨w.heap.size, 0, none⟩ (.slice none 0 0)).heap[w.heap.size]? = some (.cells #[.slice none 0 0] 25 (0, 0)) by rw [heap_setCell_same _ _ _ _ _ _ hv2]; rfl))
    have hne1 : w1.heap.size ≠ w.heap.size := by omega
    have hne2 : w.heap.size ≠ w1.heap.size := by omega
    have HX := hid (show ∀ W3, Below W2.heap.size W2 W3 → W3.cell? ⟨w1.heap.size, 0, none⟩ = some (.int .i64 e0.e) ∧ W3.cell? ⟨w1.heap.size, 1, none⟩ = some (.int .i64 q) ∧ W3.cell? ⟨w.heap.size, 0, none⟩ = some (.slice none 0 0) ∧ W3.frozen? ⟨w.heap.size, 0, none⟩ = false ∧ Below w.heap.size w (W3.setCell ⟨w.heap.size, 0, none⟩ (.slice none 0 0)) ∧ (W3.setCell ⟨w.heap.size, 0, none⟩ (.slice none 0 0)).heap[w.heap.size]? = some (.cells #[.slice none 0 0] 25 (0, 0)) from fun W3 hb3 => by
      have hv3 := heap_below' hv2 hb3
      have hf3 := heap_below' hf2 hb3
      refine ⟨by rw [Lib.cell_of_heap hf3]; rfl, by rw [Lib.cell_of_heap hf3]; rfl, by rw [Lib.cell_of_heap hv3]; rfl, Lib.frozen_of_heap hv3 0, (hbb.trans (hb3.mono (hbb.size))).setCell (p := ⟨w.heap.size, 0, none⟩) (Nat.le_refl _) _, by rw [heap_setCell_same _ _ _ _ _ _ hv3]; rfl⟩)
    have g2 : W2.cell? ⟨w1.heap.size, 2, none⟩ = some (.bool e0.sm) := by rw [Lib.cell_of_heap hf2]; rfl
    have cE := early_any e0 q W2
    have hfin : ∀ W3 : World, (W3.setCell ⟨w.heap.size, 0, none⟩ (.slice none 0 0)).heap[w.heap.size]? = some (.cells #[.slice none 0 0] 25 (0, 0)) → ((W3.setCell ⟨w.heap.size, 0, none⟩ (.slice none 0 0)).drew).cell? ⟨w.heap.size, 0, none⟩ = some (.slice none 0 0) ∧ (W3.setCell ⟨w.heap.size, 0, none⟩ (.slice none 0 0)).cell? ⟨w.heap.size, 0, none⟩ = some (.slice none 0 0) := fun W3 h => ⟨by show (W3.setCell ⟨w.heap.size, 0, none⟩ (.slice none 0 0)).cell? ⟨w.heap.size, 0, none⟩ = _; rw [Lib.cell_of_heap h]; rfl, by rw [Lib.cell_of_heap h]; rfl⟩
    have HFIN := hid hfin
    clear cC hW hword hbl hsz2 hk1 hv1 hb2 hf2 hv2 hbb cI hq2 herr2 hmf hs hfin HB
    by_cases h6 : s.size ≤ 65536
    · have g6 : ¬ (65536 : Int) < (s.size : Int) := by omega
      clear cE
      go_wp2_with fail
      go_region
      all_goals
        go_wp2_with fail
        obtain ⟨_, _, _, _, hx5, hx6⟩ := HX.out W2 (Below.refl _ _)
        have e9 := (HFIN.out W2 hx6).1
        refine bodyPost_ret (v := .tuple #[.agg #[.slice none 0 0], .int .i64 q, .int .i64 e0.e]) (by simp [results, Tryz.results10, go_sem, e9]) rfl ⟨hx5.drew, ?_⟩
        simp only [if_pos (Or.inl h6)]
    · have g6 : (65536 : Int) < (s.size : Int) := by omega
      obtain ⟨z, hz⟩ : ∃ z, earlyB e0 = z := ⟨_, rfl⟩
      rw [hz] at cE
      have HZ := hid hz
      clear hz
      cases z
      · go_wp2_with (go_at_call 22; (with_reducible refine cE.mono ?_); rintro e w3 ⟨rfl, hb3⟩; obtain ⟨x0, x1, x2, x3, hx5, hx6⟩ := HX.out w3 hb3; have HX5 := hid (And.intro hx5 hx6); clear hx5 hx6)
        have e9 := (HFIN.out _ HX5.out.2).2
        refine bodyPost_ret (v := .tuple #[.agg #[.slice none 0 0], .int .i64 0, .int .i64 5]) (by simp [results, Tryz.results10, go_sem, e9]) rfl ⟨HX5.out.1, ?_⟩
        simp only [if_neg (show ¬ (s.size ≤ 65536 ∨ earlyB e0 = true) by rw [HZ.out]; simp; omega)]
      · go_wp2_with (go_at_call 22; (with_reducible refine cE.mono ?_); rintro e w3 ⟨rfl, hb3⟩; obtain ⟨x0, x1, x2, x3, hx5, hx6⟩ := HX.out w3 hb3; have HX5 := hid (And.intro hx5 hx6); clear hx5 hx6)
        go_region
        all_goals
          go_wp2_with fail
          have e9 := (HFIN.out _ HX5.out.2).1
          refine bodyPost_ret (v := .tuple #[.agg #[.slice none 0 0], .int .i64 q, .int .i64 e0.e]) (by simp [results, Tryz.results10, go_sem, e9]) rfl ⟨HX5.out.1.drew, ?_⟩
          simp only [if_pos (Or.inr HZ.out)]
  | ok y =>
    obtain ⟨q, P⟩ := y
    have hqs := hq2 q P rfl
    refine cC.mono ?_
    rintro e w1 ⟨hk1, hr1, vp, l, hPl, rfl, ho⟩
    obtain ⟨ap, cp, rfl, -⟩ := own_form ho
    have hv1 : w1.heap[w.heap.size]? = some (.cells #[.slice none 0 0] 25 (0, 0)) := (hk1.block _ (by omega) (by omega)).trans hword
    have hs1 := hk1.size
    obtain ⟨W2, hW2⟩ : ∃ W2, w1.alloc (.cells #[.int .i64 0, .int .i64 0, .bool false] 50) = W2 := ⟨_, rfl⟩
    have hb2 : Below w1.heap.size w1 W2 := by rw [← hW2]; exact (Below.refl _ _).alloc (Nat.le_refl _) _
    have hf2 : W2.heap[w1.heap.size]? = some (.cells #[.int .i64 0, .int .i64 0, .bool false] 50 (0, 0)) := by rw [← hW2]; exact heap_alloc_new _ _
    have hv2 : W2.heap[w.heap.size]? = some (.cells #[.slice none 0 0] 25 (0, 0)) := heap_below' hv1 hb2
    have hr2 : LRd W2 (w.heap.size + 1) s bash q 0 := hr1.below hb2
    have g0 : W2.cell? ⟨w1.heap.size, 0, none⟩ = some (.int .i64 0) := by rw [Lib.cell_of_heap hf2]; rfl
    have g1 : W2.cell? ⟨w1.heap.size, 1, none⟩ = some (.int .i64 0) := by rw [Lib.cell_of_heap hf2]; rfl
    have g2 := hr2.c1
    have v0 : W2.cell? ⟨w.heap.size, 0, none⟩ = some (.slice none 0 0) := by rw [Lib.cell_of_heap hv2]; rfl
    have vf := Lib.frozen_of_heap hv2 0
    have hbb : Below w.heap.size w W2 := (hbl.trans (hk1.below (by omega) (by omega))).trans (hb2.mono (by omega))
    have ho2 : W2.ownsRow w.heap.size 34 10 (.slice ap l.length cp) l.length (rowPt l) := own_base (own_below ho hb2) (by omega)
    have hne0 : ∀ g, (Value.slice ap l.length cp).ownBlock = some g → g ≠ w.heap.size := fun g hg => by have := (ho.lt g hg).1; omega
    have HB := hid (show ∀ v, Below w.heap.size w (W2.setCell ⟨w.heap.size, 0, none⟩ v) ∧ (W2.setCell ⟨w.heap.size, 0, none⟩ v).heap[w.heap.size]? = some (.cells #[v] 25 (0, 0)) ∧ (W2.setCell ⟨w.heap.size, 0, none⟩ v).ownsRow w.heap.size 34 10 (.slice ap l.length cp) l.length (rowPt l) from fun v => ⟨hbb.setCell (p := ⟨w.heap.size, 0, none⟩) (Nat.le_refl _) _, by rw [heap_setCell_same _ _ _ _ _ _ hv2]; rfl, own_keptE ho2 fun g hg => Below.heap_setCell _ _ _ _ (hne0 g hg)⟩)
    have hne1 : w1.heap.size ≠ w.heap.size := by omega
    have hne2 : w.heap.size ≠ w1.heap.size := by omega
    have hne3 : w.heap.size + 1 ≠ w.heap.size := by omega
    have hq0 : (0 : Int) ≤ (q : Int) := by omega
    have hqb : (q : Int) ≤ 281474976710656 := by omega
    have g3 : W2.cell? ⟨w1.heap.size, 2, none⟩ = some (.bool false) := by rw [Lib.cell_of_heap hf2]; rfl
    have cE : Calls Tryz.prog 22 #[.agg #[.int .i64 0, .int .i64 0, .bool false]] W2 fun x w' => x = .returned (.bool false) ∧ Below W2.heap.size W2 w' := early_any ⟨0, false⟩ 0 W2
    subst hW2
    by_cases h6 : s.size ≤ 65536
    · have g6 : ¬ (65536 : Int) < (s.size : Int) := by omega
      clear cC hW hword hbl hsz2 hk1 hv1 hb2 hf2 hv2 hbb cI hq2 herr2 hmf hs hr1 hr2 ho ho2 hne0 cE
      go_wp2_with fail
      go_region
      all_goals
        go_wp2_with fail
        have e9 : ((((w1.alloc (.cells #[.int .i64 0, .int .i64 0, .bool false] 50))).setCell ⟨w.heap.size, 0, none⟩ (.slice ap l.length cp)).drew).cell? ⟨w.heap.size, 0, none⟩ = some (.slice ap l.length cp) := by show ((w1.alloc (.cells #[.int .i64 0, .int .i64 0, .bool false] 50)).setCell ⟨w.heap.size, 0, none⟩ (.slice ap l.length cp)).cell? ⟨w.heap.size, 0, none⟩ = _; rw [Lib.cell_of_heap (HB.out _).2.1]; rfl
        refine bodyPost_ret (v := .tuple #[.agg #[.slice ap l.length cp], .int .i64 q, .int .i64 0]) (by simp [results, Tryz.results10, go_sem, e9]) rfl ⟨(HB.out _).1.drew, ?_⟩
        simp only [if_pos h6]
        exact ⟨ap, cp, l, hPl, rfl, (HB.out (.slice ap l.length cp)).2.2⟩
    · have g6 : (65536 : Int) < (s.size : Int) := by omega
      have HX := hid (show ∀ W3, Below (w1.alloc (.cells #[.int .i64 0, .int .i64 0, .bool false] 50)).heap.size (w1.alloc (.cells #[.int .i64 0, .int .i64 0, .bool false] 50)) W3 → W3.cell? ⟨w.heap.size, 0, none⟩ = some (.slice none 0 0) ∧ W3.frozen? ⟨w.heap.size, 0, none⟩ = false ∧ Below w.heap.size w (W3.setCell ⟨w.heap.size, 0, none⟩ (.slice none 0 0)) ∧ (W3.setCell ⟨w.heap.size, 0, none⟩ (.slice none 0 0)).cell? ⟨w.heap.size, 0, none⟩ = some (.slice none 0 0) from fun W3 hb3 => by
        have hv3 := heap_below' hv2 hb3
        refine ⟨by rw [Lib.cell_of_heap hv3]; rfl, Lib.frozen_of_heap hv3 0, (hbb.trans (hb3.mono (hbb.size))).setCell (p := ⟨w.heap.size, 0, none⟩) (Nat.le_refl _) _, ?_⟩
        have hh : (W3.setCell ⟨w.heap.size, 0, none⟩ (.slice none 0 0)).heap[w.heap.size]? = some (.cells #[.slice none 0 0] 25 (0, 0)) := by rw [heap_setCell_same _ _ _ _ _ _ hv3]; rfl
        rw [Lib.cell_of_heap hh]; rfl)
      clear cC hW hword hbl hsz2 hk1 hv1 hb2 hf2 hv2 hbb cI hq2 herr2 hmf hs hr1 hr2 ho ho2 hne0 HB
      go_wp2_with (go_at_call 22; (with_reducible refine cE.mono ?_); rintro e w3 ⟨rfl, hb3⟩; obtain ⟨x0, x1, hx5, hx6⟩ := HX.out w3 hb3; have HX5 := hid (And.intro hx5 hx6); clear hx5 hx6)
      have e9 := HX5.out.2
      refine bodyPost_ret (v := .tuple #[.agg #[.slice none 0 0], .int .i64 0, .int .i64 5]) (by simp [results, Tryz.results10, go_sem, e9]) rfl ⟨HX5.out.1, ?_⟩
      simp only [if_neg h6]
theorem WPost.ok {n q : Nat} {w w' : World} {l : List Pt} {e : Ending} (h : WPost n w (.ok (q, l)) e w') : Below w.heap.size w w' ∧ if n ≤ 65536 then ∃ A c, e = .returned (.tuple #[.agg #[.slice A l.length c], .int .i64 q, .int .i64 0]) ∧ w'.ownsRow w.heap.size 34 10 (.slice A l.length c) l.length (rowPt l)
    else e = .returned (.tuple #[.agg #[.slice none 0 0], .int .i64 0, .int .i64 5]) := by
  obtain ⟨h1, h2⟩ := h
  refine ⟨h1, ?_⟩
  by_cases hn : n ≤ 65536
  · rw [if_pos hn] at h2 ⊢
    obtain ⟨A, c, l', rfl, h3, h4⟩ := h2
    exact ⟨A, c, h3, h4⟩
  · rw [if_neg hn] at h2 ⊢
    exact h2
theorem word_any (s : ByteArray) (hs : s.size ≤ 281474976710656) (bash : Bool) (n : Nat) (r : Except (Fe × Nat) (Nat × Bg)) (hrun : Run 0 s bash 0 n 0 Bg.new r) (hsm : smallE r) (herr : ∀ e q, r = .error (e, q) → e.e ≠ 0) (hq : ∀ q b, r = .ok (q, b) → q ≤ s.size) (w : World) :
    Calls Tryz.prog 10 #[.string s, .int .i64 0, .bool bash] w (WPost s.size w (takenE r)) := by
  refine word_anyS s hs bash (oneE (takenE r)) (fun B W hr => (parts_run 0 (by omega) s hs bash 0 n 0 r hrun hsm B W hr).mono fun e w' h => h.one) (fun e q h => ?_) (fun q P h => ?_) w
  · rcases r with ⟨e0, q0⟩ | ⟨q0, b⟩
    · exact herr e q (by simpa [takenE, oneE] using h)
    · cases h
  · rcases r with ⟨e0, q0⟩ | ⟨q0, b⟩
    · cases h
    · cases h; exact hq _ _ rfl
end Go.Proofs.YtialepcdbpofkaaGreat
namespace Go.Proofs.YtialepcdbpofkaaGreat
open Go.RowKit
open Go.Lib (hid)
def exS : ByteArray := ⟨#[97, 34, 36, 98, 34, 32, 99]⟩
def exP : List Pt := [textPt [97] false, paramPt [98] true]
theorem ex_run : ∃ n b, Run 0 exS false 0 n 0 Bg.new (.ok (5, b)) ∧ (closeB b).ps = exP ∧ b.ps.length = 2 := by
  have h1 : StepOk 0 exS false 0 0 1 Bg.new ⟨[], true, [97], false⟩ := part_plain 0 (by decide) exS false 0 0 Bg.new (by decide) (by decide) 97 rfl (by decide) (by decide) (by decide) (by decide) (by decide) (by decide) (by decide) (by decide +kernel)
  have h2 : StepOk 3 exS false 0 2 4 Bg.new ⟨[paramPt [98] true], false, [], false⟩ := part_dollar_ok 3 exS false 2 0 4 Bg.new _ (by decide) rfl (dollar_param 3 1 exS false 2 0 Bg.new (by decide) (by decide) (by decide +kernel) (by decide +kernel) (by decide +kernel) (.inl rfl) (by decide +kernel) (by decide) (by decide) (by decide) (by decide))
  have h3 : Run 3 exS false 0 1 2 Bg.new (.ok (4, ⟨[paramPt [98] true], false, [], false⟩)) := .step 0 2 4 _ _ _ (by decide) (by decide +kernel) h2 (.stop 4 _ (by decide) (by decide +kernel))
  have h4 : StepOk 0 exS false 0 1 5 ⟨[], true, [97], false⟩ ⟨exP, false, [], false⟩ := part_double 0 (by decide) exS false 1 0 1 4 ⟨[], true, [97], false⟩ ⟨[paramPt [98] true], false, [], false⟩ (by decide) (by decide) rfl h3 (by decide) (by decide) (fun k hk => by
    obtain rfl : k = 0 := by simpa [quotedL, closeB] using hk
    exact ⟨by decide, by show (1 : Nat) + 0 ≤ _; decide⟩) (by decide)
  exact ⟨2, ⟨exP, false, [], false⟩, .step 1 0 1 _ _ _ (by decide) (by decide +kernel) h1 (.step 0 1 5 _ _ _ (by decide) (by decide +kernel) h4 (.stop 5 _ (by decide) (by decide +kernel))), rfl, rfl⟩
set_option maxRecDepth 100000 in
set_option maxHeartbeats 4000000 in
theorem alive_any (w : World) : Calls Tryz.prog 9 #[] w fun e w' => e = .returned (.bool true) ∧ Below w.heap.size w w' := by
  obtain ⟨n, b, hrun, hps, hl⟩ := ex_run
  have cW : ∀ W, Calls Tryz.prog 10 #[.string exS, .int .i64 0, .bool false] W fun e w' => Below W.heap.size W w' ∧ ∃ A c, e = .returned (.tuple #[.agg #[.slice A 2 c], .int .i64 5, .int .i64 0]) ∧ w'.ownsRow W.heap.size 34 10 (.slice A 2 c) 2 (rowPt exP) := fun W =>
    (word_any exS (by decide) false n _ hrun (fun q b' h => by cases h; omega) (fun e q h => by cases h) (fun q b' h => by cases h; decide) W).mono fun e w' h => by
      simp only [takenE, hps] at h
      obtain ⟨h1, h2⟩ := WPost.ok h
      rw [if_pos (by decide)] at h2
      exact ⟨h1, h2⟩
  clear hrun hps hl
  unfold exS at cW
  go_enter Tryz.func9, Tryz.ntmps9
  go_wp2_with fail
  refine (cW _).mono ?_
  rintro e w1 ⟨hb1, A, c, rfl, ho⟩
  obtain ⟨g, o, rfl, hr⟩ := own_src (l := exP) ho rfl 1 (by decide)
  obtain ⟨W2, hW2⟩ : ∃ W2, w1.alloc (.cells #[.slice (some ⟨g, o, none⟩) 2 c] 25) = W2 := ⟨_, rfl⟩
  have hbw : Below w1.heap.size w1 W2 := by rw [← hW2]; exact (Below.refl _ _).alloc (Nat.le_refl _) _
  have x2 : W2.cell? ⟨g, o + 10 + 2, none⟩ = some (encS [98]) := cell_below hbw (hr 2 _ rfl)
  have x4 : W2.cell? ⟨g, o + 10 + 4, none⟩ = some (.bool true) := cell_below hbw (hr 4 _ rfl)
  have x0 : W2.cell? ⟨w1.heap.size, 0, none⟩ = some (.slice (some ⟨g, o, none⟩) 2 c) := by rw [← hW2, Lib.cell_of_heap (heap_alloc_new _ _)]; rfl
  have HB := hid (hb1.trans (hbw.mono hb1.size))
  clear hr ho hb1 hbw cW
  go_wp2_with fail
  go_ret
  exact ⟨rfl, HB.out⟩
end Go.Proofs.YtialepcdbpofkaaGreat
