/- Contracts of ansi.written, Encode, Scan: each tells what the plain mathematics says; of what was in memory nothing has turned. No conditions but the size of a string. -/
import Derived.Test.YtacbaegobkdgfaaAnsD
import Derived.Deep.AppendLies
namespace Go.Proofs.Ytacbaegobkdgfaa
open Go.RowKit
open Go.Lib (hid)

theorem oct_vals : ∀ c : UInt8, ((48 + c / 64 : UInt8).toNat : Int) = 48 + (c.toNat : Int) / 64 ∧ ((48 + c / 8 % 8 : UInt8).toNat : Int) = 48 + (c.toNat : Int) / 8 % 8 ∧ ((48 + c % 8 : UInt8).toNat : Int) = 48 + (c.toNat : Int) % 8 := all_u8 (by decide +kernel)
theorem oct_cells (c : UInt8) : ([92, 48 + c / 64, 48 + c / 8 % 8, 48 + c % 8].map u8).toArray = #[.int .u8 92, .int .u8 (48 + (c.toNat : Int) / 64), .int .u8 (48 + (c.toNat : Int) / 8 % 8), .int .u8 (48 + (c.toNat : Int) % 8)] := by
  have h := oct_vals c
  simp only [List.map_cons, List.map_nil, u8, h.1, h.2.1, h.2.2]
  rfl

set_option maxHeartbeats 1000000 in
theorem written_any (c : UInt8) (w : World) :
    Calls Try.prog 14 #[.int .u8 c.toNat] w fun e w' => e = .returned (.slice (some ⟨w.heap.size, 0, none⟩) (wrL c).length (wrL c).length) ∧ w' = w.alloc (.cells ((wrL c).map u8).toArray 5) := by
  have H : Hid (wrL c = if c = 92 ∨ c = 39 then [92, c] else if c = 10 then [92, 110] else if c = 9 then [92, 116] else if c = 13 then [92, 114]
    else if c < 32 ∨ 126 < c then [92, 48 + c / 64, 48 + c / 8 % 8, 48 + c % 8] else [c]) := hid rfl
  have hlt := c.toNat_lt
  by_cases h1 : c = 92
  · subst h1
    go_enter Try.func14, Try.ntmps14
    go_wp2
    go_ret
    exact ⟨rfl, rfl⟩
  by_cases h2 : c = 39
  · subst h2
    go_enter Try.func14, Try.ntmps14
    go_wp2
    go_ret
    exact ⟨rfl, rfl⟩
  by_cases h3 : c = 10
  · subst h3
    go_enter Try.func14, Try.ntmps14
    go_wp2
    go_ret
    exact ⟨rfl, rfl⟩
  by_cases h4 : c = 9
  · subst h4
    go_enter Try.func14, Try.ntmps14
    go_wp2
    go_ret
    exact ⟨rfl, rfl⟩
  by_cases h5 : c = 13
  · subst h5
    go_enter Try.func14, Try.ntmps14
    go_wp2
    go_ret
    exact ⟨rfl, rfl⟩
  have g1 : ((c.toNat : Int) == 92) = false := u8_ne (n := 92) h1
  have g2 : ((c.toNat : Int) == 39) = false := u8_ne (n := 39) h2
  have g3 : ((c.toNat : Int) == 10) = false := u8_ne (n := 10) h3
  have g4 : ((c.toNat : Int) == 9) = false := u8_ne (n := 9) h4
  have g5 : ((c.toNat : Int) == 13) = false := u8_ne (n := 13) h5
  by_cases h6 : c < 32 ∨ 126 < c
  · have HV : Hid (wrL c = [92, 48 + c / 64, 48 + c / 8 % 8, 48 + c % 8]) := hid (by rw [H.out]; simp [h1, h2, h3, h4, h5, h6])
    clear H h1 h2 h3 h4 h5
    by_cases h7 : (c.toNat : Int) < 32
    · clear h6
      go_enter Try.func14, Try.ntmps14
      go_wp2
      go_ret
      exact ⟨by rw [HV.out]; rfl, by rw [HV.out, oct_cells]⟩
    · have h8 : (126 : Int) < c.toNat := by
        rcases h6 with h | h
        · have := UInt8.lt_iff_toNat_lt.1 h; simp at this; omega
        · have := UInt8.lt_iff_toNat_lt.1 h; simp at this; omega
      clear h6
      go_enter Try.func14, Try.ntmps14
      go_wp2
      go_ret
      exact ⟨by rw [HV.out]; rfl, by rw [HV.out, oct_cells]⟩
  · have HV : Hid (wrL c = [c]) := hid (by rw [H.out]; simp [h1, h2, h3, h4, h5, h6])
    have h7 : (32 : Int) ≤ c.toNat := by
      have h : ¬ c < 32 := fun e => h6 (.inl e)
      rw [UInt8.lt_iff_toNat_lt] at h; simp at h; omega
    have h8 : (c.toNat : Int) ≤ 126 := by
      have h : ¬ 126 < c := fun e => h6 (.inr e)
      rw [UInt8.lt_iff_toNat_lt] at h; simp at h; omega
    clear H h1 h2 h3 h4 h5 h6
    go_enter Try.func14, Try.ntmps14
    go_wp2
    go_ret
    exact ⟨by rw [HV.out]; rfl, by rw [HV.out]; rfl⟩

theorem wrL_pos : ∀ c : UInt8, 1 ≤ (wrL c).length := all_u8 (by decide +kernel)
theorem news_wr (c : UInt8) (w : World) : ∀ j u, ((wrL c).map u8)[j]? = some u → (w.alloc (.cells ((wrL c).map u8).toArray 5)).cell? ((⟨w.heap.size, 0, none⟩ : Addr).add j) = some u := by
  have h := World.news_of_block (cs := ((wrL c).map u8).toArray) (t := 5) (fr := (0, 0)) (heap_alloc_new w (.cells ((wrL c).map u8).toArray 5))
  simpa using h

set_option maxHeartbeats 2000000 in
theorem encode_any (s : ByteArray) (w : World) (hs : s.size ≤ 140737488355327) :
    Calls Try.prog 8 #[.string s] w fun e w' => e = .returned (.tuple #[.string ⟨(encodeL s.data.toList).toArray⟩, .int .i64 (checkL s.data.toList)]) ∧ Below w.heap.size w w' := by
  have hm : s.size ≤ maxLen := by unfold maxLen; omega
  have cC := fun W => check_any s W hm
  by_cases hk : checkL s.data.toList = 0
  · rw [hk] at cC
    have HK := hid hk
    have h16 := checkL_zero hk
    rw [len_toList] at h16
    clear hk
    obtain ⟨i0, hi, hz0, hz1, hz2⟩ := info_parts info_u8
    go_enter Try.func8, Try.ntmps8
    go_wp2_with (go_at_call 13; (with_reducible refine (cC _).mono ?_); rintro e w' ⟨rfl, rfl⟩)
    go_loopw [5, 14] (fun v i wr => ∃ (k : Nat), k ≤ s.size ∧ i = .int .i64 k ∧ Below w.heap.size w wr ∧ wr.ownsRow w.heap.size 5 1 v (encL (s.data.toList.take k)).length ((encL (s.data.toList.take k)).map u8)) (fun _ i _ => s.size - (intOf i).toNat)
    case atStart => exact ⟨0, Nat.zero_le _, rfl, Below.refl _ _, World.ownsRow_nil _ _ _ _⟩
    case round =>
      obtain ⟨k, hk, rfl, hB, hown⟩ := hrel
      have hl := encL_len (s.data.toList.take k)
      have hl2 : (s.data.toList.take k).length ≤ k := List.length_take_le _ _
      by_cases hlt : k < s.size
      · obtain ⟨bs, hbs⟩ : ∃ bs, encL (s.data.toList.take k) = bs := ⟨_, rfl⟩
        have HN : Hid (encL (s.data.toList.take (k + 1)) = bs ++ wrL s[k]) := hid (by rw [take_snoc s k hlt, encL_snoc, hbs])
        rw [hbs] at hown hl
        clear hbs
        have hbl : bs.length ≤ 65536 := by omega
        have hwl := wrL_len s[k]
        have HS := hB.size
        clear hl hl2
        go_wp2_with fail
        refine (written_any s[k] _).mono ?_
        rintro e w2 ⟨rfl, rfl⟩
        have HW := hid (news_wr s[k] wr)
        go_wp2_with (at_builtin; refine wpList_append_own _ rfl _ _ 35 rfl w.heap.size 5 i0 (.int .u8 0) 1 1 Try.underlying35 hi hz0 hz1 hz2 rfl (by decide) _ _ _ rfl (hown.alloc _) ⟨wr.heap.size, 0, none⟩ (wrL s[k]).length (wrL s[k]).length ((wrL s[k]).map u8) rfl ?c0 HW.out ?c2 ?c3 ?c4 ?c5 ?_)
        case c0 => rw [List.length_map, Nat.mul_one]
        case c2 => intro u hu; obtain ⟨c, _, rfl⟩ := List.mem_map.1 hu; rfl
        case c3 => unfold maxLen; omega
        case c4 => omega
        case c5 => simp; omega
        intro v' w3 hown' hg _
        have hB3 : Below w.heap.size w w3 := ((hB.alloc HS _).grown hg (by simp; omega) (fun k hk => (hown.lt k hk).1))
        have ho3 : w3.ownsRow w.heap.size 5 1 v' (encL (s.data.toList.take (k + 1))).length ((encL (s.data.toList.take (k + 1))).map u8) := by
          rw [HN.out, List.length_append, List.map_append]; exact hown'
        have HO := hid ho3
        clear hown' ho3 hg hown HW
        go_wp2_with fail
        go_roundw
        case rel => exact ⟨k + 1, by omega, by go_num, hB3, HO.out⟩
        case measure => simp [intOf]; omega
      · obtain rfl : k = s.size := by omega
        rw [List.take_of_length_le (by rw [len_toList]; exact Nat.le_refl _)] at hown
        have hcv := conv_any hown
        clear hown hlt hl hl2
        go_wp2_with fail
        go_ret2
        exact ⟨by unfold encodeL; rw [if_pos HK.out, HK.out]; rfl, hB⟩
  · have HK := hid hk
    have g1 : (checkL s.data.toList == 0) = false := by simpa using hk
    clear hk
    go_enter Try.func8, Try.ntmps8
    go_wp2_with (go_at_call 13; (with_reducible refine (cC _).mono ?_); rintro e w' ⟨rfl, rfl⟩)
    go_ret2
    exact ⟨by unfold encodeL; rw [if_neg HK.out]; rfl, Below.refl _ _⟩

def scanEnd (n : Nat) : Option Nat → Ending
  | some p => .returned (.tuple #[.int .i64 p, .int .i64 0])
  | none => .returned (.tuple #[.int .i64 n, .int .i64 8])

set_option maxHeartbeats 2000000 in
theorem scan_any (s : ByteArray) (a : Nat) (ha : a ≤ s.size) (w : World) (hs : s.size ≤ maxLen) :
    Calls Try.prog 12 #[.string s, .int .i64 a] w fun e w' => e = scanEnd s.size (scanL false a (s.data.toList.drop a)) ∧ w = w' := by
  unfold maxLen at hs
  have e1 : decide (s.size < a) = false := decide_eq_false (by omega)
  have e2 : decide ((a : Int) < 0) = false := decide_eq_false (by omega)
  go_enter Try.func12, Try.ntmps12
  go_wp2
  go_loop [6, 21] (fun t i => ∃ (k : Nat) (b : Bool), a + k ≤ s.size ∧ t = .bool b ∧ i = .int .i64 k ∧ Hid (scanL false a (s.data.toList.drop a) = scanL b (a + k) (s.data.toList.drop (a + k)))) (fun _ i => s.size - a - (intOf i).toNat)
  case atStart => exact ⟨0, false, by omega, rfl, rfl, hid rfl⟩
  case round =>
    obtain ⟨k, b, hk, rfl, rfl, HR⟩ := hrel
    by_cases hlt : a + k < s.size
    · have HD : Hid (s.data.toList.drop (a + k) = s[a + k] :: s.data.toList.drop (a + (k + 1))) := hid (List.drop_eq_getElem_cons (by simpa using hlt))
      cases b
      · by_cases h1 : s[a + k] = 92
        · have g1 : ((s[a + k].toNat : Int) == 92) = true := by rw [h1]; rfl
          have HN : Hid (scanL false a (s.data.toList.drop a) = scanL true (a + (k + 1)) (s.data.toList.drop (a + (k + 1)))) := hid (by rw [HR.out, HD.out, scanL, if_pos h1]; rfl)
          clear h1 HR HD
          go_wp2
          go_round
          case rel => exact ⟨k + 1, true, by omega, rfl, by go_num, HN⟩
          case measure => simp [intOf]; omega
        · have g1 : ((s[a + k].toNat : Int) == 92) = false := u8_ne (n := 92) h1
          by_cases h2 : s[a + k] = 39
          · have g2 : ((s[a + k].toNat : Int) == 39) = true := by rw [h2]; rfl
            have HN : Hid (scanL false a (s.data.toList.drop a) = some (a + k)) := hid (by rw [HR.out, HD.out, scanL, if_neg h1, if_pos h2])
            clear h1 h2 HR HD
            go_wp2
            go_ret2
            exact ⟨by rw [HN.out]; exact ret_two (by simp) rfl, rfl⟩
          · have g2 : ((s[a + k].toNat : Int) == 39) = false := u8_ne (n := 39) h2
            have HN : Hid (scanL false a (s.data.toList.drop a) = scanL false (a + (k + 1)) (s.data.toList.drop (a + (k + 1)))) := hid (by rw [HR.out, HD.out, scanL, if_neg h1, if_neg h2]; rfl)
            clear h1 h2 HR HD
            go_wp2
            go_round
            case rel => exact ⟨k + 1, false, by omega, rfl, by go_num, HN⟩
            case measure => simp [intOf]; omega
      · have HN : Hid (scanL false a (s.data.toList.drop a) = scanL false (a + (k + 1)) (s.data.toList.drop (a + (k + 1)))) := hid (by rw [HR.out, HD.out, scanL]; rfl)
        clear HR HD
        go_wp2
        go_round
        case rel => exact ⟨k + 1, false, by omega, rfl, by go_num, HN⟩
        case measure => simp [intOf]; omega
    · have HN : Hid (scanL false a (s.data.toList.drop a) = none) := hid (by rw [HR.out, List.drop_of_length_le (by rw [len_toList]; omega)]; cases b <;> rfl)
      clear HR
      go_wp2
      go_ret2
      exact ⟨by rw [HN.out]; rfl, rfl⟩
end Go.Proofs.Ytacbaegobkdgfaa
