/- The law LexHeredocs: lines up to one that ends them are told, plain as they stand. Conditions: sizes. -/
import Derived.Test.YtialepcdbpofkaaGreatAlive13
import Derived.Test.YtialepcdbpofkaaGreatLxR
import Derived.Test.YtialepcdbpofkaaGreatLxQ
import Derived.Test.YtialepcdbpofkaaGreatSzT
namespace Go.Proofs.YtialepcdbpofkaaGreat
open Go.RowKit
open Go.Lib (hid)

def herT : List (List UInt8) → List UInt8
  | [] => []
  | x :: r => x ++ 10 :: herT r
theorem herT_snoc : ∀ (l : List (List UInt8)) (x : List UInt8), herT (l ++ [x]) = herT l ++ (x ++ [10])
  | [], x => by simp [herT]
  | y :: r, x => by show y ++ 10 :: herT (r ++ [x]) = _; rw [herT_snoc r x]; simp [herT]
theorem herT_len : ∀ l : List (List UInt8), (herT l).length = sizeTs l
  | [] => rfl
  | x :: r => by
    show (x ++ 10 :: herT r).length = _
    rw [List.length_append, List.length_cons, herT_len r]
    simp only [sizeTs, List.map_cons, List.sum_cons]
    omega
theorem sizeTs_take (l : List (List UInt8)) (k : Nat) : sizeTs (l.take k) ≤ sizeTs l := by
  have h : sizeTs l = sizeTs (l.take k) + sizeTs (l.drop k) := by
    conv => lhs; rw [← List.take_append_drop k l]
    simp only [sizeTs, List.map_append, List.sum_append]
  omega
theorem at_listH {s : ByteArray} {pre r : List UInt8} {x : List UInt8} (h : s.data.toList = pre ++ (x ++ 10 :: r)) : pre.length < s.size ∧ s.data.toList.drop pre.length = x ++ 10 :: r ∧ pre.length + x.length + 1 ≤ s.size := by
  have hl : s.size = pre.length + (x.length + (r.length + 1)) := by rw [← len_toList, h]; simp
  exact ⟨by omega, by rw [h]; simp, by omega⟩
theorem ln_step {s : ByteArray} {e x pre r : List UInt8} {n a b : Nat} {o : Bool} (h : s.data.toList = pre ++ (x ++ 10 :: r)) (hx : ∀ c ∈ x, c ≠ 10) (hne : x ≠ e) (hr : Ln s e n (pre ++ (x ++ [10])).length a b o) : Ln s e (n + 1) pre.length a b o := by
  obtain ⟨hp, hd, hle⟩ := at_listH h
  have hb : befL 10 (s.data.toList.drop pre.length) = x := by rw [hd]; exact bef_at 10 x r hx
  refine .step n _ a b o hp (by rw [hb]; exact hne) ?_
  have e1 : min (pre.length + (befL 10 (s.data.toList.drop pre.length)).length + 1) s.size = (pre ++ (x ++ [10])).length := by rw [hb]; simp; omega
  rw [e1]; exact hr
theorem ln_lines {s : ByteArray} {e : List UInt8} {a b : Nat} {o : Bool} : ∀ (l : List (List UInt8)) (pre post : List UInt8) (n : Nat), s.data.toList = pre ++ (herT l ++ post) → (∀ x ∈ l, (∀ c ∈ x, c ≠ 10) ∧ x ≠ e) → Ln s e n (pre ++ herT l).length a b o → ∃ n', Ln s e n' pre.length a b o
  | [], pre, post, n, _, _, hr => ⟨n, by simpa [herT] using hr⟩
  | x :: l, pre, post, n, h, hall, hr => by
    obtain ⟨n1, h1⟩ := ln_lines l (pre ++ (x ++ [10])) post n (by rw [h]; simp [herT]) (fun y hy => hall y (List.mem_cons_of_mem _ hy)) (by
      have e1 : pre ++ (x ++ [10]) ++ herT l = pre ++ herT (x :: l) := by simp [herT]
      rw [e1]; exact hr)
    have hx := hall x (List.mem_cons_self ..)
    exact ⟨n1 + 1, ln_step (r := herT l ++ post) (by rw [h]; simp [herT]) hx.1 hx.2 h1⟩
theorem her_hit (l : List (List UInt8)) (e rest : List UInt8) (he : ∀ c ∈ e, c ≠ 10) (hall : ∀ x ∈ l, (∀ c ∈ x, c ≠ 10) ∧ x ≠ e) : ∃ n, Ln ⟨(herT l ++ (e ++ 10 :: rest)).toArray⟩ e n 0 (herT l).length ((herT l).length + e.length + 1) true := by
  obtain ⟨hp, hd, hle⟩ := at_listH (s := ⟨(herT l ++ (e ++ 10 :: rest)).toArray⟩) (pre := herT l) (x := e) (r := rest) (by simp)
  have hb : befL 10 ((⟨(herT l ++ (e ++ 10 :: rest)).toArray⟩ : ByteArray).data.toList.drop (herT l).length) = e := by rw [hd]; exact bef_at 10 e rest he
  have hh := Ln.hit (s := ⟨(herT l ++ (e ++ 10 :: rest)).toArray⟩) (e := e) (herT l).length hp hb
  rw [hb, Nat.min_eq_left hle] at hh
  obtain ⟨n, h⟩ := ln_lines (s := ⟨(herT l ++ (e ++ 10 :: rest)).toArray⟩) (e := e) l [] (e ++ 10 :: rest) 0 (by simp) hall (by simpa using hh)
  exact ⟨n, by simpa using h⟩
theorem her_any {s : ByteArray} {e : List UInt8} : ∀ (l : List (List UInt8)) (pre : List UInt8), s.data.toList = pre ++ herT l → (∀ x ∈ l, ∀ c ∈ x, c ≠ 10) → ∃ n a b o, Ln s e n pre.length a b o ∧ a ≤ s.size ∧ (e ∉ l → o = false)
  | [], pre, h, _ => by
    have hz : s.size = pre.length := by rw [← len_toList, h]; simp [herT]
    refine ⟨0, 0, 0, false, ?_, Nat.zero_le _, fun _ => rfl⟩
    have := Ln.fin (s := s) (e := e)
    rwa [hz] at this
  | x :: l, pre, h, hall => by
    have hx := hall x (List.mem_cons_self ..)
    have h' : s.data.toList = pre ++ (x ++ 10 :: herT l) := h
    by_cases hxe : x = e
    · obtain ⟨hp, hd, hle⟩ := at_listH h'
      have hb : befL 10 (s.data.toList.drop pre.length) = e := by rw [hd, ← hxe]; exact bef_at 10 x (herT l) hx
      exact ⟨0, _, _, true, .hit _ hp hb, by omega, fun hn => absurd (by rw [hxe]; exact List.mem_cons_self ..) hn⟩
    · obtain ⟨n, a, b, o, h1, h2, h3⟩ := her_any (s := s) (e := e) l (pre ++ (x ++ [10])) (by rw [h']; simp) (fun y hy => hall y (List.mem_cons_of_mem _ hy))
      exact ⟨n + 1, a, b, o, ln_step h' hx hxe h1, h2, fun hn => h3 (fun hm => hn (List.mem_cons_of_mem _ hm))⟩

set_option maxRecDepth 100000 in
set_option maxHeartbeats 4000000 in
theorem has_any (A : Option Addr) (c : Nat) (ls : List (List UInt8)) (e : List UInt8) (w : World) (hT : TextsP w (fun _ => True) A ls) (hl : ls.length ≤ 1099511627776) :
    Calls Tryz.prog 17 #[.slice A ls.length c, encS e] w fun x w' => x = .returned (.bool (decide (e ∈ ls))) ∧ w' = w := by
  go_enter Tryz.func17, Tryz.ntmps17
  go_wp2_with fail
  go_loopw [5] (fun vi wr => ∃ k : Nat, vi = .int .i64 k ∧ k ≤ ls.length ∧ Hid (e ∉ ls.take k) ∧ wr = w) (fun vi _ => ls.length - (intOf vi).toNat)
  case atStart => exact ⟨0, rfl, Nat.zero_le _, hid (by simp), rfl⟩
  case round =>
    obtain ⟨k, rfl, hk, HN, hwr⟩ := hrel
    have hwr := hwr.symm
    subst hwr
    have hk0 : (0 : Int) ≤ (k : Int) := by omega
    by_cases hlt : k < ls.length
    · have hkl : (k : Int) < (ls.length : Int) := by omega
      obtain ⟨g, o, rfl, -, hcell⟩ := hT k hlt
      obtain ⟨x, hx⟩ : ∃ x, ls[k] = x := ⟨_, rfl⟩
      rw [hx] at hcell
      have htk : ls.take (k + 1) = ls.take k ++ [x] := by rw [List.take_succ_eq_append_getElem hlt, hx]
      cases hxe : (x == e)
      · have hne : x ≠ e := by simpa using hxe
        have HN2 : Hid (e ∉ ls.take (k + 1)) := hid (by
          rw [htk, List.mem_append]
          intro h
          rcases h with h | h
          · exact HN.out h
          · simp at h; exact hne h.symm)
        clear htk hne
        go_wp2_with fail
        go_roundw
        case rel => exact ⟨k + 1, by go_num, by omega, HN2, trivial⟩
        case measure => simp [intOf]; omega
      · have hin : decide (e ∈ ls) = true := by
          have : x = e := by simpa using hxe
          rw [← this, ← hx]
          simp
        have HI := hid hin
        clear htk hin
        go_wp2_with fail
        go_ret
        rw [HI.out]
        exact ⟨rfl, rfl⟩
    · have hke : k = ls.length := by omega
      subst hke
      have hno : decide (e ∈ ls) = false := by
        have := HN.out
        rw [List.take_length] at this
        simpa using this
      have HI := hid hno
      clear hno
      go_wp2_with fail
      go_ret
      rw [HI.out]
      exact ⟨rfl, rfl⟩

theorem cat_arrH (a b : List UInt8) : (⟨a.toArray⟩ : ByteArray) ++ ⟨b.toArray⟩ = ⟨(a ++ b).toArray⟩ := by
  apply ByteArray.ext
  rw [ByteArray.data_append]
  simp
theorem arr_size (a : List UInt8) : (⟨a.toArray⟩ : ByteArray).size = a.length := by simp [ByteArray.size]
theorem arr_at (x : List UInt8) (j : Nat) (hj : j < x.length) : ∃ h : j < (⟨x.toArray⟩ : ByteArray).size, (⟨x.toArray⟩ : ByteArray)[j] = x[j] := by
  have h : j < (⟨x.toArray⟩ : ByteArray).size := by rw [arr_size]; exact hj
  refine ⟨h, ?_⟩
  have := getElem_toList ⟨x.toArray⟩ j h
  rw [← this]

set_option maxRecDepth 100000 in
set_option maxHeartbeats 8000000 in
theorem heredocs_walk (A : Option Addr) (c : Nat) (ls : List (List UInt8)) (en : List UInt8) (rest : ByteArray) (bash : Bool) (w : World) (hT : TextsP w (fun _ => True) A ls) (hz : sizeTs ls ≤ 1048576) (hes : en.length ≤ 140737488351232) (hrs : rest.size ≤ 140737488351232) :
    Calls Tryz.prog 7 #[.slice A ls.length c, encS en, .string rest, .bool bash] w fun e w' => e = .returned (.bool true) ∧ Below w.heap.size w w' := by
  have hln := sizeTs_len ls
  have hex := arr_size en
  go_enter Tryz.func7, Tryz.ntmps7
  go_wp2_with fail
  refine (alive_any _).mono ?_
  rintro e w1 ⟨rfl, hb1⟩
  have hT1 := hid (hT.below hb1)
  clear hT
  go_wp2_with fail
  go_loopw [9, 10] (fun v vi wr => ∃ k : Nat, vi = .int .i64 k ∧ k ≤ ls.length ∧ k ≤ 20 ∧ v = .string ⟨(herT (ls.take k)).toArray⟩ ∧ Hid (∀ x ∈ ls.take k, (∀ c ∈ x, c ≠ 10) ∧ x ≠ en) ∧ wr = w1) (fun _ vi _ => ls.length - (intOf vi).toNat)
  case atStart => exact ⟨0, rfl, Nat.zero_le _, by omega, rfl, hid (by simp), rfl⟩
  case round =>
    obtain ⟨k, rfl, hk, hk20, rfl, HA, hwr⟩ := hrel
    have hwr := hwr.symm
    subst hwr
    have hk0 : (0 : Int) ≤ (k : Int) := by omega
    have hki : (k : Int) ≤ 20 := by omega
    have hTl : (herT (ls.take k)).length ≤ 1048576 := by rw [herT_len]; exact Nat.le_trans (sizeTs_take ls k) hz
    have hTz := arr_size (herT (ls.take k))
    by_cases hlt : k < ls.length ∧ k < 20
    · obtain ⟨hlt1, hlt2⟩ := hlt
      have hkl : (k : Int) < (ls.length : Int) := by omega
      have hk2 : (k : Int) < 20 := by omega
      obtain ⟨g, o, rfl, -, hcell⟩ := hT1.out k hlt1
      obtain ⟨x, hx⟩ : ∃ x, ls[k] = x := ⟨_, rfl⟩
      rw [hx] at hcell
      have htk : ls.take (k + 1) = ls.take k ++ [x] := by rw [List.take_succ_eq_append_getElem hlt1, hx]
      have hxl : x.length ≤ 1048576 := by
        have h1 : sizeTs (ls.take (k + 1)) ≤ sizeTs ls := sizeTs_take ls (k + 1)
        rw [htk] at h1
        simp only [sizeTs, List.map_append, List.sum_append, List.map_cons, List.map_nil, List.sum_cons, List.sum_nil] at h1
        simp only [sizeTs] at hz
        omega
      have hxz := arr_size x
      have HTK := hid htk
      clear htk
      go_wp2_with fail
      go_loopw [11] (fun vi wr => ∃ j : Nat, vi = .int .i64 j ∧ j ≤ x.length ∧ Hid (∀ c ∈ x.take j, c ≠ 10) ∧ wr = w1) (fun vi _ => x.length - (intOf vi).toNat)
      case atStart => exact ⟨0, rfl, Nat.zero_le _, hid (by simp), rfl⟩
      case round =>
        obtain ⟨j, rfl, hj, HJ, hwr⟩ := hrel
        have hwr := hwr.symm
        subst hwr
        have hj0 : (0 : Int) ≤ (j : Int) := by omega
        have hcl := hcell
        by_cases hjx : j < x.length
        · obtain ⟨hjz, hch0⟩ := arr_at x j hjx
          obtain ⟨ch, hch⟩ : ∃ ch, x[j] = ch := ⟨_, rfl⟩
          rw [hch] at hch0
          have hji : (j : Int) < (x.length : Int) := by omega
          have hjk : x.take (j + 1) = x.take j ++ [ch] := by rw [List.take_succ_eq_append_getElem hjx, hch]
          by_cases h10 : ch = 10
          · have g10 : ((ch.toNat : Int) == 10) = true := by rw [h10]; rfl
            clear hjk h10
            go_wp2_with fail
            go_ret
            exact ⟨rfl, hb1⟩
          · have g10 : ((ch.toNat : Int) == 10) = false := u8_ne h10
            by_cases h00 : ch = 0
            · have g0 : ((ch.toNat : Int) == 0) = true := by rw [h00]; rfl
              clear hjk h10 h00
              go_wp2_with fail
              go_ret
              exact ⟨rfl, hb1⟩
            · have g0 : ((ch.toNat : Int) == 0) = false := u8_ne (n := 0) h00
              have HJ2 : Hid (∀ c ∈ x.take (j + 1), c ≠ 10) := hid (fun c hc => by
                rw [hjk, List.mem_append] at hc
                rcases hc with hc | hc
                · exact HJ.out c hc
                · simp at hc; rw [hc]; exact h10)
              clear hjk h10 h00
              go_wp2_with fail
              go_roundw
              case rel => exact ⟨j + 1, by go_num, by omega, HJ2, trivial⟩
              case measure => simp [intOf]; omega
        · have hje : j = x.length := by omega
          subst hje
          have hji : ¬ (x.length : Int) < (x.length : Int) := by omega
          have HX : Hid (∀ c ∈ x, c ≠ 10) := hid (by have := HJ.out; rwa [List.take_length] at this)
          cases hxe : (x == en)
          · have HA2 : Hid (∀ y ∈ ls.take (k + 1), (∀ c ∈ y, c ≠ 10) ∧ y ≠ en) := hid (fun y hy => by
              rw [HTK.out, List.mem_append] at hy
              rcases hy with hy | hy
              · exact HA.out y hy
              · simp at hy; subst hy; exact ⟨HX.out, by simpa using hxe⟩)
            have HF : Hid (((⟨(herT (ls.take k)).toArray⟩ : ByteArray) ++ ⟨x.toArray⟩) ++ ⟨#[10]⟩ = ⟨(herT (ls.take (k + 1))).toArray⟩) := hid (by
              rw [HTK.out, herT_snoc, cat_arrH, cat_arrH]; simp)
            have hi1 : (⟨(herT (ls.take k)).toArray⟩ : ByteArray).size ≤ 1048576 := by omega
            have z1 : (((⟨(herT (ls.take k)).toArray⟩ : ByteArray) ++ ⟨x.toArray⟩ : ByteArray).size : Int) ≤ 2097152 := by rw [ByteArray.size_append]; omega
            have hi2 : ((⟨(herT (ls.take k)).toArray⟩ : ByteArray).size : Int) ≤ 1048576 := by omega
            clear hTz hTl
            generalize (⟨(herT (ls.take k)).toArray⟩ : ByteArray) = T0 at *
            go_wp2_with fail
            go_roundw
            case rel => exact ⟨k + 1, by go_num, by omega, by omega, congrArg Value.string HF.out, HA2, trivial⟩
            case measure => simp [intOf]; omega
          · go_wp2_with fail
            go_ret
            exact ⟨rfl, hb1⟩
    · have hcut : ¬ ((k : Int) < (ls.length : Int)) ∨ ((k : Int) < (ls.length : Int) ∧ ¬ (k : Int) < 20) := by omega
      have hLs : ∀ y, y ∈ ls.take k → y ∈ ls := fun y hy => List.mem_of_mem_take hy
      obtain ⟨R, hR⟩ : ∃ R, rest.data.toList = R := ⟨_, rfl⟩
      have hRl : R.length = rest.size := by rw [← hR, len_toList]
      have hre : rest = ⟨R.toArray⟩ := by rw [← hR]
      have hcat1 : (((⟨(herT (ls.take k)).toArray⟩ : ByteArray) ++ ⟨en.toArray⟩) ++ ⟨#[10]⟩) ++ rest = ⟨(herT (ls.take k) ++ (en ++ 10 :: R)).toArray⟩ := by rw [hre, cat_arrH, cat_arrH, cat_arrH]; simp
      have hcat2 : (⟨en.toArray⟩ : ByteArray) ++ ⟨#[120]⟩ = ⟨(en ++ [120]).toArray⟩ := by rw [cat_arrH]
      have hS1z : (⟨(herT (ls.take k) ++ (en ++ 10 :: R)).toArray⟩ : ByteArray).size = (herT (ls.take k)).length + (en.length + (rest.size + 1)) := by rw [arr_size]; simp only [List.length_append, List.length_cons, hRl]
      have htake : (⟨(herT (ls.take k) ++ (en ++ 10 :: R)).toArray⟩ : ByteArray).data.toList.take (herT (ls.take k)).length = herT (ls.take k) := by simp
      obtain ⟨n2, a2, b2, o2, hL2, ha2, ho2⟩ := her_any (s := ⟨(herT (ls.take k)).toArray⟩) (e := en ++ [120]) (ls.take k) [] (by simp) (fun x hx => (HA.out x hx).1)
      have cH2 := fun W => heredoc_run ⟨(herT (ls.take k)).toArray⟩ bash (by rw [hTz]; omega) (en ++ [120]) n2 a2 b2 o2 hL2 (by omega) ha2 W
      have cH1 : (∀ x ∈ en, x ≠ 10) → ∀ W, Calls Tryz.prog 16 #[.string ⟨(herT (ls.take k) ++ (en ++ 10 :: R)).toArray⟩, .int .i64 0, encS en, .bool true, .bool bash] W fun e w' => Below W.heap.size W w' ∧ ∃ A c, e = .returned (.tuple #[.agg #[.slice A 1 c], .int .i64 (((herT (ls.take k)).length + en.length + 1 : Nat) : Int), .int .i64 0]) ∧ SrcP w' A [textPt (herT (ls.take k)) true] := fun he W => by
        obtain ⟨n1, hL1⟩ := her_hit (ls.take k) en R he HA.out
        have h := heredoc_run _ bash (by rw [hS1z]; omega) en n1 _ _ true hL1 (by omega) (by rw [hS1z]; omega) W
        refine h.mono fun e w' hp => ?_
        obtain ⟨h1, A1, c1, h2, h3⟩ := hp
        rw [htake] at h3
        exact ⟨h1, A1, c1, h2, h3⟩
      have hT0i : ((⟨(herT (ls.take k)).toArray⟩ : ByteArray).size : Int) = ((herT (ls.take k)).length : Int) := by omega
      have hnx : (⟨en.toArray⟩ : ByteArray).size = en.length := hex
      have z1 : (((⟨(herT (ls.take k)).toArray⟩ : ByteArray) ++ ⟨en.toArray⟩ : ByteArray).size : Int) = ((herT (ls.take k)).length : Int) + (en.length : Int) := by rw [ByteArray.size_append]; omega
      have z2 : ((((⟨(herT (ls.take k)).toArray⟩ : ByteArray) ++ ⟨en.toArray⟩) ++ ⟨#[10]⟩ : ByteArray).size : Int) = ((herT (ls.take k)).length : Int) + (en.length : Int) + 1 := by
        rw [ByteArray.size_append]
        show ((((⟨(herT (ls.take k)).toArray⟩ : ByteArray) ++ ⟨en.toArray⟩ : ByteArray).size + 1 : Nat) : Int) = _
        omega
      have hrr : (rest.size : Int) ≤ 140737488351232 := by omega
      have hTli : ((herT (ls.take k)).length : Int) ≤ 1048576 := by omega
      have hesi : (en.length : Int) ≤ 140737488351232 := by omega
      have hbq : (herT (ls.take k) == (⟨(herT (ls.take k)).toArray⟩ : ByteArray).toList) = true := by rw [toList_data]; simp
      have htx : textL [textPt (herT (ls.take k)) true] = herT (ls.take k) := by simp [textL, textPt]
      have HTX := hid htx
      clear htx
      have HO2 := hid ho2
      have HLS := hid hLs
      clear hL2 ho2 hLs hS1z htake hre hR hRl HA ha2
      generalize (⟨(herT (ls.take k) ++ (en ++ 10 :: R)).toArray⟩ : ByteArray) = S1 at *
      generalize (⟨(herT (ls.take k)).toArray⟩ : ByteArray) = T0 at *
      generalize herT (ls.take k) = tl at *
      rcases hcut with h | ⟨h, h2⟩
      all_goals
        go_wp2_with fail
        go_loopw [12] (fun vi wr => ∃ j : Nat, vi = .int .i64 j ∧ j ≤ en.length ∧ Hid (∀ c ∈ en.take j, c ≠ 10) ∧ wr = w1) (fun vi _ => en.length - (intOf vi).toNat)
        case atStart => exact ⟨0, rfl, Nat.zero_le _, hid (by simp), rfl⟩
        case round =>
          obtain ⟨j, rfl, hj, HJ, hwr⟩ := hrel
          have hwr := hwr.symm
          subst hwr
          have hj0 : (0 : Int) ≤ (j : Int) := by omega
          by_cases hjx : j < en.length
          · obtain ⟨hjz, hch0⟩ := arr_at en j hjx
            obtain ⟨ch, hch⟩ : ∃ ch, en[j] = ch := ⟨_, rfl⟩
            rw [hch] at hch0
            have hji : (j : Int) < (en.length : Int) := by omega
            have hjk : en.take (j + 1) = en.take j ++ [ch] := by rw [List.take_succ_eq_append_getElem hjx, hch]
            by_cases h10 : ch = 10
            · have g10 : ((ch.toNat : Int) == 10) = true := by rw [h10]; rfl
              clear hjk h10
              go_wp2_with fail
              go_ret
              exact ⟨rfl, hb1⟩
            · have g10 : ((ch.toNat : Int) == 10) = false := u8_ne h10
              have HJ2 : Hid (∀ c ∈ en.take (j + 1), c ≠ 10) := hid (fun c hc => by
                rw [hjk, List.mem_append] at hc
                rcases hc with hc | hc
                · exact HJ.out c hc
                · simp at hc; rw [hc]; exact h10)
              clear hjk h10
              go_wp2_with fail
              go_roundw
              case rel => exact ⟨j + 1, by go_num, by omega, HJ2, trivial⟩
              case measure => simp [intOf]; omega
          · have hje : j = en.length := by omega
            subst hje
            have hji : ¬ (en.length : Int) < (en.length : Int) := by omega
            have cH1' := cH1 (by have := HJ.out; rwa [List.take_length] at this)
            clear cH1
            go_wp2_with fail
            refine (cH1' _).mono ?_
            rintro e w2 ⟨hb2, A1, c1, rfl, hsrc0⟩
            clear cH1'
            have hbw : Below w2.heap.size w2 (w2.alloc (.cells #[.slice A1 1 c1] 25)) := (Below.refl _ _).alloc (Nat.le_refl _) _
            have hww := heap_alloc_new w2 (.cells #[.slice A1 1 c1] 25)
            have hsrc : SrcP (w2.alloc (.cells #[.slice A1 1 c1] 25)) A1 [textPt tl true] := hsrc0.below hbw
            have hb1s := hb1.size
            have hb2s := hb2.size
            have hbb : Below w.heap.size w (w2.alloc (.cells #[.slice A1 1 c1] 25)) := hb1.trans ((hb2.mono hb1s).trans (hbw.mono (Nat.le_trans hb1s hb2s)))
            have HT3 := hid ((hT1.out.below hb2).below hbw)
            have k0 : (w2.alloc (.cells #[.slice A1 1 c1] 25)).cell? ⟨w2.heap.size, 0, none⟩ = some (.slice A1 1 c1) := by rw [Lib.cell_of_heap hww]; rfl
            have HBB := hid (And.intro hbb hsrc)
            have HWW := hid hww
            clear hbw hww hsrc hbb hb1s hb2s hsrc0 hT1
            go_wp2_with fail
            generalize hW3 : w2.alloc (.cells #[.slice A1 1 c1] 25) = W3 at *
            refine (cH2 W3).mono ?_
            clear cH2
            intro e w3' hp
            obtain ⟨hb3, A2, l2, c2, m2, f2, rfl, hf2⟩ : Below W3.heap.size W3 w3' ∧ ∃ A2 l2 c2 m2 f2, e = .returned (.tuple #[.agg #[.slice A2 l2 c2], .int .i64 m2, .int .i64 f2]) ∧ (o2 = false → f2 = 8) := by
              cases o2
              · exact ⟨hp.1, _, _, _, _, _, hp.2, fun _ => rfl⟩
              · obtain ⟨hb, A2, c2, he, -⟩ := hp
                exact ⟨hb, _, _, _, _, _, he, fun h => Bool.noConfusion h⟩
            clear hp
            have hbw : Below w3'.heap.size w3' (w3'.alloc (.cells #[.slice A2 l2 c2] 25)) := (Below.refl _ _).alloc (Nat.le_refl _) _
            obtain ⟨w4, hW4⟩ : ∃ w4, w3'.alloc (.cells #[.slice A2 l2 c2] 25) = w4 := ⟨_, rfl⟩
            have hb4 : Below W3.heap.size W3 w4 := by rw [← hW4]; exact hb3.trans (hbw.mono hb3.size)
            have HB4 := hid hb4
            have hw4 := heap_below' HWW.out hb4
            have k4 : w4.cell? ⟨w2.heap.size, 0, none⟩ = some (.slice A1 1 c1) := by rw [Lib.cell_of_heap hw4]; rfl
            have cT : Calls Tryz.prog 13 #[.agg #[.slice A1 1 c1]] w4 fun e w' => e = .returned (encS tl) ∧ Below w4.heap.size w4 w' := by
              have := text_any A1 c1 [textPt tl true] w4 (HBB.out.2.below hb4) (by simp) (by rw [HTX.out]; omega)
              rw [HTX.out] at this
              exact this
            have cA : Calls Tryz.prog 17 #[.slice A ls.length c, encS (en ++ [120])] w4 fun x w' => x = .returned (.bool (decide (en ++ [120] ∈ ls))) ∧ w' = w4 := has_any A c ls (en ++ [120]) w4 (HT3.out.below hb4) (by omega)
            have HFIN : Hid (∀ w', Below w4.heap.size w4 w' → Below w.heap.size w w') := hid fun w' h =>
              HBB.out.1.trans ((HB4.out.mono HBB.out.1.size).trans (h.mono (Nat.le_trans HBB.out.1.size HB4.out.size)))
            have HRF := hid (HFIN.out w4 (Below.refl _ _))
            have HF2 := hid hf2
            clear hw4 hb4 k0 hbw hb3 hf2
            cases hen : (en == [])
            · cases hdm : decide (en ++ [120] ∈ ls)
              · have ho2 : o2 = false := HO2.out (fun hm => by
                  have := HLS.out _ hm
                  simp at hdm
                  exact hdm this)
                have hf := HF2.out ho2
                subst hf
                rw [hdm] at cA
                go_wp2_with fail
                refine cA.mono ?_
                rintro e w5 ⟨rfl, hw⟩
                have hw := hw.symm
                subst hw
                clear hdm cA
                go_wp2_with (go_at_call 13; (with_reducible refine cT.mono ?_); rintro e w5 ⟨rfl, hb5⟩)
                go_ret
                exact ⟨rfl, HFIN.out _ hb5⟩
              · rw [hdm] at cA
                go_wp2_with fail
                refine cA.mono ?_
                rintro e w5 ⟨rfl, hw⟩
                have hw := hw.symm
                subst hw
                go_wp2_with fail
                go_ret
                exact ⟨rfl, HRF.out⟩
            · go_wp2_with fail
              go_ret
              exact ⟨rfl, HRF.out⟩
end Go.Proofs.YtialepcdbpofkaaGreat
