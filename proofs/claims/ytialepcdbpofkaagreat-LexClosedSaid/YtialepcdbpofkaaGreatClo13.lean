/- The law LexClosed: the parenthesis that ends is the first that has no pair. Conditions: sizes. -/
import Derived.Test.YtialepcdbpofkaaGreatAlive13
import Derived.Test.YtialepcdbpofkaaGreatLxO
namespace Go.Proofs.YtialepcdbpofkaaGreat
open Go.RowKit
open Go.Lib (hid)

def okC (c : UInt8) : Bool := !(c == 40) && !(c == 41) && !(c == 39) && !(c == 34) && !(c == 92)
theorem okC_ne {c : UInt8} (h : okC c = true) : c ≠ 40 ∧ c ≠ 41 ∧ c ≠ 39 ∧ c ≠ 34 ∧ c ≠ 92 := by
  unfold okC at h
  simp at h
  exact ⟨h.1.1.1.1, h.1.1.1.2, h.1.1.2, h.1.2, h.2⟩
def blockL (w : List UInt8) : List UInt8 := 40 :: (w ++ (41 :: 39 :: 40 :: 39 :: w))
def cloT : List (List UInt8) → List UInt8
  | [] => []
  | x :: r => blockL (x.filter okC) ++ cloT r
theorem cloT_snoc : ∀ (l : List (List UInt8)) (x : List UInt8), cloT (l ++ [x]) = cloT l ++ blockL (x.filter okC)
  | [], x => by simp [cloT]
  | y :: r, x => by show blockL (y.filter okC) ++ cloT (r ++ [x]) = _; rw [cloT_snoc r x]; simp [cloT]
theorem block_len (w : List UInt8) : (blockL w).length = 2 * w.length + 5 := by simp [blockL]; omega
theorem cloT_len : ∀ (l : List (List UInt8)), (∀ x ∈ l, x.length ≤ 140737488351232) → (cloT l).length ≤ l.length * 281474976702474
  | [], _ => by simp [cloT]
  | x :: r, h => by
    have h1 := cloT_len r (fun y hy => h y (List.mem_cons_of_mem _ hy))
    have h2 := h x (List.mem_cons_self ..)
    have h3 : (x.filter okC).length ≤ x.length := List.length_filter_le ..
    show (blockL (x.filter okC) ++ cloT r).length ≤ _
    rw [List.length_append, block_len, List.length_cons, Nat.add_mul]
    omega

theorem at_listC {s : ByteArray} {pre r : List UInt8} {c : UInt8} (h : s.data.toList = pre ++ c :: r) : ∃ hp : pre.length < s.size, s[pre.length] = c := by
  have hl : pre.length < s.size := by rw [← len_toList, h]; simp
  refine ⟨hl, ?_⟩
  have := getElem_toList s pre.length hl
  rw [← this]
  simp only [h]
  simp
/-- One plain octet. -/
theorem cl_one {s : ByteArray} (hs : s.size ≤ 9007199254740992) {pre post : List UInt8} {c : UInt8} {n o r : Nat} {e : Int} (h : s.data.toList = pre ++ c :: post) (h92 : c ≠ 92) (h39 : c ≠ 39) (h34 : c ≠ 34) (ho : c = 41 → 0 < o)
    (hr : Cl s n (pre.length + 1) (openNext c o) r e) : Cl s (n + 1) pre.length o r e := by
  obtain ⟨hp, hc⟩ := at_listC h
  exact .step n _ _ o r e hp (fun h => ho (by rw [← hc]; exact h)) (pass_plain s _ hs hp c hc h92 h39 h34) (by omega) (by omega) (by rw [hc]; exact hr)
theorem cl_list {s : ByteArray} (hs : s.size ≤ 9007199254740992) {o r : Nat} {e : Int} : ∀ (w pre post : List UInt8) (n : Nat), s.data.toList = pre ++ (w ++ post) → (∀ c ∈ w, okC c = true) → Cl s n (pre.length + w.length) o r e → ∃ n', Cl s n' pre.length o r e
  | [], pre, post, n, h, _, hr => ⟨n, by simpa using hr⟩
  | c :: w, pre, post, n, h, hw, hr => by
    have hc := okC_ne (hw c (List.mem_cons_self ..))
    obtain ⟨n', hn⟩ := cl_list hs w (pre ++ [c]) post n (by rw [h]; simp) (fun x hx => hw x (List.mem_cons_of_mem _ hx)) (by
      rw [show (pre ++ [c]).length + w.length = pre.length + (c :: w).length by simp; omega]; exact hr)
    refine ⟨n' + 1, cl_one hs (post := w ++ post) (by rw [h]; simp) hc.2.2.2.2 hc.2.2.1 hc.2.2.2.1 (fun e => absurd e hc.2.1) ?_⟩
    rw [show openNext c o = o by unfold openNext; rw [if_neg hc.1, if_neg hc.2.1]]
    rw [show pre.length + 1 = (pre ++ [c]).length by simp]
    exact hn
theorem cl_block {s : ByteArray} (hs : s.size ≤ 9007199254740992) {r n : Nat} {e : Int} (w pre post : List UInt8) (hw : ∀ c ∈ w, okC c = true) (h : s.data.toList = pre ++ (blockL w ++ post)) (hr : Cl s n (pre.length + (blockL w).length) 0 r e) : ∃ n', Cl s n' pre.length 0 r e := by
  have hl := block_len w
  -- the second w
  obtain ⟨n1, h1⟩ := cl_list hs (o := 0) w (pre ++ (40 :: (w ++ [41, 39, 40, 39]))) post n (by rw [h]; simp [blockL]) hw (by
    have e1 : (pre ++ (40 :: (w ++ [41, 39, 40, 39])) : List UInt8).length + w.length = pre.length + (blockL w).length := by rw [hl]; simp; omega
    rw [e1]; exact hr)
  -- the quoted (
  have hq : s.data.toList = (pre ++ (40 :: (w ++ [41]))) ++ 39 :: (40 :: 39 :: (w ++ post)) := by rw [h]; simp [blockL]
  obtain ⟨hp2, hc2⟩ := at_listC hq
  have hsz : s.size = (pre ++ (40 :: (w ++ [41]))).length + (3 + (w.length + post.length)) := by rw [← len_toList, hq]; simp; omega
  have hdrop : s.data.toList.drop ((pre ++ (40 :: (w ++ [41]))).length + 1) = [40] ++ 39 :: (w ++ post) := by
    have e1 : (pre ++ (40 :: (w ++ [41])) : List UInt8).length + 1 = ((pre ++ (40 :: (w ++ [41]))) ++ [39] : List UInt8).length := by simp only [List.length_append, List.length_cons, List.length_nil]
    have e2 : s.data.toList = ((pre ++ (40 :: (w ++ [41]))) ++ [39]) ++ ([40] ++ 39 :: (w ++ post)) := by rw [hq]; simp
    rw [e1, e2, List.drop_left]
  have hpass := pass_quote s _ hs hp2 hc2
  rw [hdrop, bef_at 39 [40] (w ++ post) (by simp)] at hpass
  have e3 : min ((pre ++ (40 :: (w ++ [41]))).length + ([40] : List UInt8).length + 2) s.size = (pre ++ (40 :: (w ++ [41]))).length + 3 := by
    show min (_ + 1 + 2) _ = _
    omega
  rw [e3] at hpass
  have h2 : Cl s (n1 + 1) (pre ++ (40 :: (w ++ [41]))).length 0 r e := .step n1 _ _ 0 r e hp2 (fun h => by rw [hc2] at h; exact absurd h (by decide)) hpass (by omega) (by omega) (by
    have e1 : (pre ++ (40 :: (w ++ [41])) : List UInt8).length + 3 = (pre ++ (40 :: (w ++ [41, 39, 40, 39])) : List UInt8).length := by simp; omega
    rw [hc2, show openNext 39 0 = 0 from rfl, e1]; exact h1)
  -- the ) that has its pair
  have h3 : Cl s (n1 + 1 + 1) (pre ++ (40 :: w)).length 1 r e := cl_one hs (c := 41) (post := 39 :: 40 :: 39 :: (w ++ post)) (by rw [h]; simp [blockL]) (by decide) (by decide) (by decide) (fun _ => by decide) (by
    have e1 : (pre ++ (40 :: w) : List UInt8).length + 1 = (pre ++ (40 :: (w ++ [41])) : List UInt8).length := by simp; omega
    rw [show openNext 41 1 = 0 from rfl, e1]; exact h2)
  obtain ⟨n4, h4⟩ := cl_list hs (o := 1) w (pre ++ [40]) (41 :: 39 :: 40 :: 39 :: (w ++ post)) (n1 + 1 + 1) (by rw [h]; simp [blockL]) hw (by
    have e1 : (pre ++ [40] : List UInt8).length + w.length = (pre ++ (40 :: w) : List UInt8).length := by simp; omega
    rw [e1]; exact h3)
  exact ⟨n4 + 1, cl_one hs (c := 40) (post := w ++ 41 :: 39 :: 40 :: 39 :: (w ++ post)) (by rw [h]; simp [blockL]) (by decide) (by decide) (by decide) (fun e => absurd e (by decide)) (by
    have e1 : pre.length + 1 = (pre ++ [40] : List UInt8).length := by simp
    rw [show openNext 40 0 = 1 from rfl, e1]; exact h4)⟩
theorem cl_blocks {s : ByteArray} (hs : s.size ≤ 9007199254740992) {r : Nat} {e : Int} : ∀ (l : List (List UInt8)) (pre post : List UInt8) (n : Nat), s.data.toList = pre ++ (cloT l ++ post) → Cl s n (pre.length + (cloT l).length) 0 r e → ∃ n', Cl s n' pre.length 0 r e
  | [], pre, post, n, h, hr => ⟨n, by simpa [cloT] using hr⟩
  | x :: l, pre, post, n, h, hr => by
    obtain ⟨n1, h1⟩ := cl_blocks hs l (pre ++ blockL (x.filter okC)) post n (by rw [h]; simp [cloT]) (by
      rw [show (pre ++ blockL (x.filter okC)).length + (cloT l).length = pre.length + (cloT (x :: l)).length by simp [cloT]; omega]; exact hr)
    exact cl_block hs (x.filter okC) pre (cloT l ++ post) (fun c hc => (List.mem_filter.1 hc).2) (by rw [h]; simp [cloT]) (by rw [← List.length_append]; exact h1)
theorem clo_hit (l : List (List UInt8)) (rest : List UInt8) (hs : (cloT l ++ 41 :: rest).length ≤ 9007199254740992) : ∃ n, Cl ⟨(cloT l ++ 41 :: rest).toArray⟩ n 0 0 (cloT l).length 0 := by
  have hz : (⟨(cloT l ++ 41 :: rest).toArray⟩ : ByteArray).size = (cloT l ++ 41 :: rest).length := by simp [ByteArray.size]
  obtain ⟨hp, hc⟩ := at_listC (s := ⟨(cloT l ++ 41 :: rest).toArray⟩) (pre := cloT l) (c := 41) (r := rest) (by simp)
  obtain ⟨n, h⟩ := cl_blocks (s := ⟨(cloT l ++ 41 :: rest).toArray⟩) (by omega) l [] (41 :: rest) 0 (by simp) (by simpa using Cl.hit _ hp hc)
  exact ⟨n, h⟩
theorem clo_fin (l : List (List UInt8)) (hs : (cloT l).length ≤ 9007199254740992) : ∃ n, Cl ⟨(cloT l).toArray⟩ n 0 0 (cloT l).length 8 := by
  have hz : (⟨(cloT l).toArray⟩ : ByteArray).size = (cloT l).length := by simp [ByteArray.size]
  obtain ⟨n, h⟩ := cl_blocks (s := ⟨(cloT l).toArray⟩) (r := (cloT l).length) (e := 8) (by omega) l [] [] 0 (by simp) (by
    have := Cl.fin (s := ⟨(cloT l).toArray⟩) 0
    rw [hz] at this
    simpa using this)
  exact ⟨n, h⟩
theorem u8_bne {c : UInt8} {n : Nat} (h : c ≠ n.toUInt8) : ((c.toNat : Int) != (n : Int)) = true := by rw [bne, u8_ne h]; rfl
theorem cat_arrC (a b : List UInt8) : (⟨a.toArray⟩ : ByteArray) ++ ⟨b.toArray⟩ = ⟨(a ++ b).toArray⟩ := by
  apply ByteArray.ext
  rw [ByteArray.data_append]
  simp
set_option maxRecDepth 100000 in
set_option maxHeartbeats 4000000 in
theorem closed_walk (A : Option Addr) (c : Nat) (ls : List (List UInt8)) (rest : ByteArray) (w : World) (hT : TextsP w (fun _ => True) A ls) (_hlc : ls.length ≤ c) (_hl16 : ls.length * 16 ≤ 140737488351232) (hsz : ∀ x ∈ ls, x.length ≤ 140737488351232) (hrs : rest.size ≤ 140737488351232) :
    Calls Tryz.prog 6 #[.slice A ls.length c, .string rest] w fun e w' => e = .returned (.bool true) ∧ Below w.heap.size w w' := by
  go_enter Tryz.func6, Tryz.ntmps6
  go_wp2_with fail
  refine (alive_any _).mono ?_
  rintro e w1 ⟨rfl, hb1⟩
  have hT1 := hid (hT.below hb1)
  have HS := hid hsz
  clear hT hsz
  go_wp2_with fail
  go_loopw [5, 6] (fun v vi wr => ∃ k : Nat, vi = .int .i64 k ∧ k ≤ ls.length ∧ k ≤ 20 ∧ v = .string ⟨(cloT (ls.take k)).toArray⟩ ∧ wr = w1) (fun _ vi _ => ls.length - (intOf vi).toNat)
  case atStart => exact ⟨0, rfl, Nat.zero_le _, by omega, rfl, rfl⟩
  case round =>
    obtain ⟨k, rfl, hk, hk20, rfl, hwr⟩ := hrel
    have hwr := hwr.symm
    subst hwr
    have hk0 : (0 : Int) ≤ (k : Int) := by omega
    have hki : (k : Int) ≤ 20 := by omega
    have hTl : ((⟨(cloT (ls.take k)).toArray⟩ : ByteArray).size : Int) ≤ 5629499534049480 := by
      have h1 := cloT_len (ls.take k) (fun x hx => HS.out x (List.mem_of_mem_take hx))
      have h2 : (⟨(cloT (ls.take k)).toArray⟩ : ByteArray).size = (cloT (ls.take k)).length := by simp [ByteArray.size]
      rw [List.length_take] at h1
      rw [h2]
      have h3 : min k ls.length * 281474976702474 ≤ 20 * 281474976702474 := Nat.mul_le_mul_right _ (by omega)
      omega
    by_cases hlt : k < ls.length ∧ k < 20
    · obtain ⟨hlt1, hlt2⟩ := hlt
      have hkl : (k : Int) < (ls.length : Int) := by omega
      have hk2 : (k : Int) < 20 := by omega
      obtain ⟨g, o, rfl, -, hcell⟩ := hT1.out k hlt1
      have hxs := HS.out _ (List.getElem_mem hlt1)
      obtain ⟨x, hx⟩ : ∃ x, ls[k] = x := ⟨_, rfl⟩
      rw [hx] at hcell hxs
      have hxz : (⟨x.toArray⟩ : ByteArray).size = x.length := by simp [ByteArray.size]
      have HX := hid hx
      have HT0 := hid hTl
      clear hTl hx
      go_wp2_with fail
      go_loopw [7, 8] (fun v vi wr => ∃ j : Nat, vi = .int .i64 j ∧ j ≤ x.length ∧ v = .string ⟨((x.take j).filter okC).toArray⟩ ∧ wr = w1) (fun _ vi _ => x.length - (intOf vi).toNat)
      case atStart => exact ⟨0, rfl, Nat.zero_le _, rfl, rfl⟩
      case round =>
        obtain ⟨j, rfl, hj, rfl, hwr⟩ := hrel
        have hwr := hwr.symm
        subst hwr
        have hj0 : (0 : Int) ≤ (j : Int) := by omega
        have hwz : (((⟨((x.take j).filter okC).toArray⟩ : ByteArray).size : Nat) : Int) ≤ 140737488351232 := by
          have h1 : (⟨((x.take j).filter okC).toArray⟩ : ByteArray).size = ((x.take j).filter okC).length := by simp [ByteArray.size]
          have h2 : ((x.take j).filter okC).length ≤ (x.take j).length := List.length_filter_le ..
          rw [List.length_take] at h2
          omega
        by_cases hjx : j < x.length
        · have hjz : j < (⟨x.toArray⟩ : ByteArray).size := by rw [hxz]; exact hjx
          have hji : (j : Int) < (x.length : Int) := by omega
          have hj1 : (j : Int) + 1 ≤ (x.length : Int) := by omega
          obtain ⟨ch, hch⟩ : ∃ ch, (⟨x.toArray⟩ : ByteArray)[j] = ch := ⟨_, rfl⟩
          have hex : (⟨x.toArray⟩ : ByteArray).extract j (j + 1) = ⟨#[ch]⟩ := by rw [ext_one _ j hjz, hch]
          have hxc : x[j] = ch := by rw [← hch]; have := getElem_toList ⟨x.toArray⟩ j hjz; simpa using this
          have htk : x.take (j + 1) = x.take j ++ [ch] := by rw [List.take_succ_eq_append_getElem hjx, hxc]
          have hcl := hcell
          cases hok : okC ch
          · have HF : Hid ((x.take (j + 1)).filter okC = (x.take j).filter okC) := hid (by rw [htk, List.filter_append]; simp [hok])
            have hor : (ch.toNat : Int) = 40 ∨ (ch.toNat : Int) = 41 ∨ (ch.toNat : Int) = 39 ∨ (ch.toNat : Int) = 34 ∨ (ch.toNat : Int) = 92 := by
              unfold okC at hok
              by_cases h1 : ch = 40; · left; rw [h1]; rfl
              by_cases h2 : ch = 41; · right; left; rw [h2]; rfl
              by_cases h3 : ch = 39; · right; right; left; rw [h3]; rfl
              by_cases h4 : ch = 34; · right; right; right; left; rw [h4]; rfl
              by_cases h5 : ch = 92; · right; right; right; right; rw [h5]; rfl
              simp [h1, h2, h3, h4, h5] at hok
            clear hok htk hxc hex
            rcases hor with h | h | h | h | h
            · have g40 : ((ch.toNat : Int) != 40) = false := by rw [h]; rfl
              have g41 : ((ch.toNat : Int) != 41) = true := by rw [h]; rfl
              have g39 : ((ch.toNat : Int) != 39) = true := by rw [h]; rfl
              have g34 : ((ch.toNat : Int) != 34) = true := by rw [h]; rfl
              have g92 : ((ch.toNat : Int) != 92) = true := by rw [h]; rfl
              clear h
              go_wp2_with fail
              go_roundw
              case rel => exact ⟨j + 1, by go_num, by omega, by rw [HF.out], trivial⟩
              case measure => simp [intOf]; omega
            · have g40 : ((ch.toNat : Int) != 40) = true := by rw [h]; rfl
              have g41 : ((ch.toNat : Int) != 41) = false := by rw [h]; rfl
              have g39 : ((ch.toNat : Int) != 39) = true := by rw [h]; rfl
              have g34 : ((ch.toNat : Int) != 34) = true := by rw [h]; rfl
              have g92 : ((ch.toNat : Int) != 92) = true := by rw [h]; rfl
              clear h
              go_wp2_with fail
              go_roundw
              case rel => exact ⟨j + 1, by go_num, by omega, by rw [HF.out], trivial⟩
              case measure => simp [intOf]; omega
            · have g40 : ((ch.toNat : Int) != 40) = true := by rw [h]; rfl
              have g41 : ((ch.toNat : Int) != 41) = true := by rw [h]; rfl
              have g39 : ((ch.toNat : Int) != 39) = false := by rw [h]; rfl
              have g34 : ((ch.toNat : Int) != 34) = true := by rw [h]; rfl
              have g92 : ((ch.toNat : Int) != 92) = true := by rw [h]; rfl
              clear h
              go_wp2_with fail
              go_roundw
              case rel => exact ⟨j + 1, by go_num, by omega, by rw [HF.out], trivial⟩
              case measure => simp [intOf]; omega
            · have g40 : ((ch.toNat : Int) != 40) = true := by rw [h]; rfl
              have g41 : ((ch.toNat : Int) != 41) = true := by rw [h]; rfl
              have g39 : ((ch.toNat : Int) != 39) = true := by rw [h]; rfl
              have g34 : ((ch.toNat : Int) != 34) = false := by rw [h]; rfl
              have g92 : ((ch.toNat : Int) != 92) = true := by rw [h]; rfl
              clear h
              go_wp2_with fail
              go_roundw
              case rel => exact ⟨j + 1, by go_num, by omega, by rw [HF.out], trivial⟩
              case measure => simp [intOf]; omega
            · have g40 : ((ch.toNat : Int) != 40) = true := by rw [h]; rfl
              have g41 : ((ch.toNat : Int) != 41) = true := by rw [h]; rfl
              have g39 : ((ch.toNat : Int) != 39) = true := by rw [h]; rfl
              have g34 : ((ch.toNat : Int) != 34) = true := by rw [h]; rfl
              have g92 : ((ch.toNat : Int) != 92) = false := by rw [h]; rfl
              clear h
              go_wp2_with fail
              go_roundw
              case rel => exact ⟨j + 1, by go_num, by omega, by rw [HF.out], trivial⟩
              case measure => simp [intOf]; omega
          · obtain ⟨h40, h41, h39, h34, h92⟩ := okC_ne hok
            have g40 : ((ch.toNat : Int) != 40) = true := u8_bne h40
            have g41 : ((ch.toNat : Int) != 41) = true := u8_bne h41
            have g39 : ((ch.toNat : Int) != 39) = true := u8_bne h39
            have g34 : ((ch.toNat : Int) != 34) = true := u8_bne h34
            have g92 : ((ch.toNat : Int) != 92) = true := u8_bne h92
            have HF : Hid ((⟨((x.take j).filter okC).toArray⟩ : ByteArray) ++ ⟨#[ch]⟩ = ⟨((x.take (j + 1)).filter okC).toArray⟩) := hid (by rw [htk, List.filter_append, cat_arrC]; simp [hok])
            clear hok htk hxc h40 h41 h39 h34 h92
            generalize (⟨((x.take j).filter okC).toArray⟩ : ByteArray) = W0 at *
            go_wp2_with fail
            go_roundw
            case rel => exact ⟨j + 1, by go_num, by omega, congrArg Value.string HF.out, trivial⟩
            case measure => simp [intOf]; omega
        · have hje : j = x.length := by omega
          subst hje
          have hji : ¬ (x.length : Int) < (x.length : Int) := by omega
          rw [List.take_length]
          rw [List.take_length] at hwz
          have htk : cloT (ls.take (k + 1)) = cloT (ls.take k) ++ blockL (x.filter okC) := by rw [List.take_succ_eq_append_getElem hlt1, cloT_snoc, HX.out]
          have hTl := HT0.out
          have HF : Hid ((((((⟨(cloT (ls.take k)).toArray⟩ : ByteArray) ++ ⟨#[40]⟩) ++ ⟨(x.filter okC).toArray⟩) ++ ⟨#[41]⟩) ++ ⟨#[39, 40, 39]⟩) ++ ⟨(x.filter okC).toArray⟩ = ⟨(cloT (ls.take (k + 1))).toArray⟩) := hid (by
            rw [htk, cat_arrC, cat_arrC, cat_arrC, cat_arrC, cat_arrC]
            simp [blockL])
          have hcl := hcell
          clear htk hj
          generalize (⟨(x.filter okC).toArray⟩ : ByteArray) = W0 at *
          generalize (⟨(cloT (ls.take k)).toArray⟩ : ByteArray) = T0 at *
          have z1 : ((T0 ++ ⟨#[40]⟩ : ByteArray).size : Int) = (T0.size : Int) + 1 := by rw [ByteArray.size_append]; show ((T0.size + 1 : Nat) : Int) = _; omega
          have z2 : (((T0 ++ ⟨#[40]⟩) ++ W0 : ByteArray).size : Int) = (T0.size : Int) + 1 + (W0.size : Int) := by rw [ByteArray.size_append]; omega
          have z3 : ((((T0 ++ ⟨#[40]⟩) ++ W0) ++ ⟨#[41]⟩ : ByteArray).size : Int) = (T0.size : Int) + 1 + (W0.size : Int) + 1 := by rw [ByteArray.size_append]; show (((T0 ++ ⟨#[40]⟩ ++ W0 : ByteArray).size + 1 : Nat) : Int) = _; omega
          have z4 : (((((T0 ++ ⟨#[40]⟩) ++ W0) ++ ⟨#[41]⟩) ++ ⟨#[39, 40, 39]⟩ : ByteArray).size : Int) = (T0.size : Int) + 1 + (W0.size : Int) + 1 + 3 := by rw [ByteArray.size_append]; show ((((T0 ++ ⟨#[40]⟩ ++ W0) ++ ⟨#[41]⟩ : ByteArray).size + 3 : Nat) : Int) = _; omega
          obtain ⟨a, ha⟩ : ∃ a, (T0.size : Int) = a := ⟨_, rfl⟩
          obtain ⟨b, hb⟩ : ∃ b, (W0.size : Int) = b := ⟨_, rfl⟩
          rw [ha] at z1 z2 z3 z4 hTl
          rw [hb] at z2 z3 z4 hwz
          have hb0 : 0 ≤ b := by omega
          have ha0 : 0 ≤ a := by omega
          go_wp2_with fail
          go_roundw
          case rel => exact ⟨k + 1, by go_num, by omega, by omega, congrArg Value.string HF.out, trivial⟩
          case measure => simp [intOf]; omega
    · have hcut : ¬ ((k : Int) < (ls.length : Int)) ∨ ((k : Int) < (ls.length : Int) ∧ ¬ (k : Int) < 20) := by omega
      have hle : (cloT (ls.take k)).length ≤ 5629499534049480 := by
        have h2 : (⟨(cloT (ls.take k)).toArray⟩ : ByteArray).size = (cloT (ls.take k)).length := by simp [ByteArray.size]
        omega
      obtain ⟨R, hR⟩ : ∃ R, rest.data.toList = R := ⟨_, rfl⟩
      have hRl : R.length = rest.size := by rw [← hR, len_toList]
      have hre : rest = ⟨R.toArray⟩ := by rw [← hR]
      obtain ⟨n1, hc1⟩ := clo_hit (ls.take k) R (by simp; omega)
      obtain ⟨n2, hc2⟩ := clo_fin (ls.take k) (by omega)
      have hcat : ((⟨(cloT (ls.take k)).toArray⟩ : ByteArray) ++ ⟨#[41]⟩) ++ rest = ⟨(cloT (ls.take k) ++ 41 :: R).toArray⟩ := by rw [hre, cat_arrC, cat_arrC]; simp
      have hz1 : (⟨(cloT (ls.take k)).toArray⟩ : ByteArray).size = (cloT (ls.take k)).length := by simp [ByteArray.size]
      have hz2 : (⟨(cloT (ls.take k) ++ 41 :: R).toArray⟩ : ByteArray).size = (cloT (ls.take k)).length + 1 + rest.size := by
        have h1 : (⟨(cloT (ls.take k) ++ 41 :: R).toArray⟩ : ByteArray).size = (cloT (ls.take k) ++ 41 :: R).length := by simp [ByteArray.size]
        rw [h1, List.length_append, List.length_cons, hRl]; omega
      have cC1 := fun W => closed_run _ (by rw [hz2]; omega) n1 _ _ hc1 W
      have cC2 := fun W => closed_run _ (by rw [hz1]; omega) n2 _ _ hc2 W
      have HBB := hid hb1
      clear hc1 hc2 hre hz2 hb1
      generalize cloT (ls.take k) = t at *
      generalize (⟨(t ++ 41 :: R).toArray⟩ : ByteArray) = T2 at *
      generalize (⟨t.toArray⟩ : ByteArray) = T0 at *
      have z1 : ((T0 ++ ⟨#[41]⟩ : ByteArray).size : Int) = (T0.size : Int) + 1 := by rw [ByteArray.size_append]; show ((T0.size + 1 : Nat) : Int) = _; omega
      obtain ⟨a, ha⟩ : ∃ a, (t.length : Int) = a := ⟨_, rfl⟩
      have hza : (T0.size : Int) = a := by omega
      rw [hza] at z1
      rw [ha] at cC1 cC2
      have ha0 : 0 ≤ a := by omega
      have hab : a ≤ 5629499534049480 := by omega
      have hrr : (rest.size : Int) ≤ 140737488351232 := by omega
      clear hz1 hle hTl hlt
      rcases hcut with h | ⟨h, h2⟩
      all_goals
        go_wp2_with (first
          | (go_at_call 15; (with_reducible refine (cC1 _).mono ?_); rintro e w2 ⟨rfl, m1, rfl⟩)
          | (go_at_call 15; (with_reducible refine (cC2 _).mono ?_); rintro e w2 ⟨rfl, m2, rfl⟩))
        go_ret
        exact ⟨rfl, below_drewN HBB.out _⟩
end Go.Proofs.YtialepcdbpofkaaGreat
