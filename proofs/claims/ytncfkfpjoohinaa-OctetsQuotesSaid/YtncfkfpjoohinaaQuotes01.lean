/- The statement OctetsQuotes: whatever the text, the law returns true, and the text reads behind the call as before. No conditions. -/
import Derived.Test.YtncfkfpjoohinaaAlive01
import Derived.WalkSpells
namespace Go.Proofs.Ytncfkfpjoohinaa
open Go.RowKit
open Go.Lib (hid)

/-- The law's reader: what it makes of the rest of a quoted text; none: it says no. -/
def rd : Bool → List UInt8 → List UInt8 → Option (Bool × List UInt8)
  | inq, b, [] => some (inq, b)
  | true, b, c :: r => if c = 39 then rd false b r else rd true (b ++ [c]) r
  | false, b, [c] => if c = 39 then some (true, b) else if c = 92 then none else if plainB c then some (false, b ++ [c]) else none
  | false, b, c :: d :: r => if c = 39 then rd true b (d :: r) else if c = 92 then (if d = 39 then rd false (b ++ [d]) r else none) else if plainB c then rd false (b ++ [c]) (d :: r) else none
termination_by _ _ l => l.length

theorem rd_39 (inq : Bool) (b r : List UInt8) : rd inq b (39 :: r) = rd (!inq) b r := by
  cases inq
  · cases r with
    | nil => simp [rd]
    | cons d r => rw [rd]; simp
  · rw [rd]; simp
theorem rd_in {c : UInt8} (b r : List UInt8) (h : c ≠ 39) : rd true b (c :: r) = rd true (b ++ [c]) r := by rw [rd, if_neg h]
theorem rd_esc (b r : List UInt8) : rd false b (92 :: 39 :: r) = rd false (b ++ [39]) r := by rw [rd]; simp
theorem rd_esc_some {b r : List UInt8} {x : Bool × List UInt8} (h : rd false b (92 :: r) = some x) : ∃ r', r = 39 :: r' := by
  cases r with
  | nil => simp [rd] at h
  | cons d r =>
    rw [rd] at h
    by_cases hd : d = 39
    · exact ⟨r, by rw [hd]⟩
    · simp [hd] at h
theorem rd_plain_some {c : UInt8} {b r : List UInt8} {x : Bool × List UInt8} (h1 : c ≠ 39) (h2 : c ≠ 92) (h : rd false b (c :: r) = some x) : plainB c = true := by
  cases hp : plainB c with
  | true => rfl
  | false => cases r with
    | nil => simp [rd, h1, h2, hp] at h
    | cons d r => rw [rd] at h; simp [h1, h2, hp] at h
theorem rd_plain {c : UInt8} (b r : List UInt8) (h1 : c ≠ 39) (h2 : c ≠ 92) (hp : plainB c = true) : rd false b (c :: r) = rd false (b ++ [c]) r := by
  cases r with
  | nil => simp [rd, h1, h2, hp]
  | cons d r => rw [rd]; simp [h1, h2, hp]

theorem rd_all_plain : ∀ (l b : List UInt8), l.all plainB = true → rd false b l = some (false, b ++ l)
  | [], b, _ => by simp [rd]
  | c :: r, b, h => by
    simp only [List.all_cons, Bool.and_eq_true] at h
    have h1 : c ≠ 39 := by rintro rfl; exact absurd h.1 (by decide +kernel)
    have h2 : c ≠ 92 := by rintro rfl; exact absurd h.1 (by decide +kernel)
    rw [rd_plain b r h1 h2 h.1, rd_all_plain r _ h.2]; simp
theorem rd_all_quoted : ∀ (l b : List UInt8), rd true b (quoteAll l ++ [39]) = some (false, b ++ l)
  | [], b => by simp [quoteAll, rd]
  | c :: r, b => by
    have ih := rd_all_quoted r (b ++ [c])
    simp only [quoteAll, List.flatMap_cons, List.append_assoc] at ih ⊢
    by_cases h : c = 39
    · subst h
      simp only [quoteOf, if_true, List.cons_append, List.nil_append]
      rw [rd_39, Bool.not_true, rd_esc, rd_39, Bool.not_false, ih]
      rfl
    · simp only [quoteOf, h, if_false, List.cons_append, List.nil_append]
      rw [rd_in b _ h, ih]
      rfl
theorem rd_quote (l : List UInt8) (h : checkL l = 0) : rd false [] (quoteL l) = some (false, l) := by
  unfold quoteL
  rw [if_pos h]
  cases hp : plainL l
  · have h2 := rd_all_quoted l []
    simp only [Bool.false_eq_true, if_false, List.cons_append]
    rw [rd_39]
    exact h2
  · simp only [if_true]
    unfold plainL allB at hp
    simp only [Bool.and_eq_true] at hp
    exact rd_all_plain l [] hp.2
theorem quoteL_len (l : List UInt8) (h : checkL l = 0) : (quoteL l).length ≤ 65538 := by
  have h1 := checkL_zero h
  have h2 := quoteAll_len l
  unfold quoteL
  rw [if_pos h]
  split
  · omega
  · simp only [List.cons_append, List.length_cons, List.length_append, List.length_nil]; omega

theorem extract_one (q : ByteArray) (k : Nat) (h : k < q.size) : (q.extract k (k + 1)).data.toList = [q[k]] := by
  have h' : k < q.data.size := h
  rw [ByteArray.data_extract, Array.toList_extract, List.extract_eq_take_drop, List.drop_eq_getElem_cons (by simpa using h')]
  simp
  rfl

theorem u8_ne {c : UInt8} {n : Nat} (h : c ≠ n.toUInt8) : ((c.toNat : Int) == (n : Int)) = false := by
  have h2 : c.toNat ≠ n := fun e => h (by rw [← e]; simp)
  simp; omega

theorem own_snoc {w : World} {N : Nat} {v : Value} {l : List UInt8} {c : UInt8} (h : w.ownsRow N 5 1 v (l.length + 1) (l.map u8 ++ [.int .u8 c.toNat])) : w.ownsRow N 5 1 v (l ++ [c]).length ((l ++ [c]).map u8) := by
  simpa [u8] using h

theorem conv_any {w : World} {N : Nat} {v : Value} {l : List UInt8} (h : w.ownsRow N 5 1 v l.length (l.map u8)) :
    (convert 27 9 v).run Try.prog w = .ok (.string ⟨l.toArray⟩) w := by
  rcases h.2 with ⟨rfl, h0⟩ | ⟨g, cap, cur, rfl, _⟩
  · obtain rfl := List.eq_nil_of_length_eq_zero h0
    rw [run_convert_bytes_string w 27 9 5 none 0 0 Try.underlying27 Try.underlying5 Try.underlying9]
    rfl
  · exact conv_own h

set_option maxHeartbeats 4000000 in
theorem quotes_walk (s : ByteArray) (w : World) (hs : s.size ≤ 140737488351232) :
    Calls Try.prog 3 #[.string s] w fun e w' => e = .returned (.bool true) ∧ Below w.heap.size w w' := by
  have cQ := fun W => quote_any s W (by omega)
  have cA := fun W => alive_any W
  by_cases hk : checkL s.data.toList = 0
  · obtain ⟨q, hq⟩ : ∃ q : ByteArray, ⟨(quoteL s.data.toList).toArray⟩ = q := ⟨_, rfl⟩
    rw [hq, hk] at cQ
    have hqd : q.data.toList = quoteL s.data.toList := by rw [← hq]
    have hqs : q.size ≤ 65538 := by rw [← len_toList, hqd]; exact quoteL_len _ hk
    have HR : Hid (rd false [] q.data.toList = some (false, s.data.toList)) := hid (by rw [hqd]; exact rd_quote _ hk)
    clear hqd hk hq
    obtain ⟨i0, hi, hz0, hz1, hz2⟩ := info_parts info_u8
    go_enter Try.func3, Try.ntmps3
    go_wp2_with (first | (go_at_call 8; (with_reducible refine (cA _).mono ?_); rintro e w1 ⟨rfl, hb1⟩) | (go_at_call 9; (with_reducible refine (cQ _).mono ?_); rintro e w2 ⟨rfl, hb2⟩) | (go_at_call 10; refine (num_any _ _).mono ?_; rintro e w' ⟨rfl, rfl⟩))
    have hbw : Below w.heap.size w w2 := hb1.trans (hb2.mono hb1.size)
    clear hb1 hb2 cQ cA
    go_loopw [5, 6, 7] (fun v inn i wr => ∃ (k : Nat) (inq : Bool) (bs : List UInt8), k ≤ q.size ∧ bs.length ≤ k ∧ i = .int .i64 k ∧ inn = .bool inq ∧ Below w.heap.size w wr ∧ wr.ownsRow w.heap.size 5 1 v bs.length (bs.map u8) ∧ Hid (rd inq bs (q.data.toList.drop k) = some (false, s.data.toList))) (fun _ _ i _ => q.size - (intOf i).toNat)
    case atStart => exact ⟨0, false, [], Nat.zero_le _, Nat.le_refl _, rfl, rfl, hbw, World.ownsRow_nil _ _ _ _, HR⟩
    case round =>
      obtain ⟨k, inq, bs, hk, hbl, rfl, rfl, hB, hown, HR'⟩ := hrel
      clear HR
      by_cases hlt : k < q.size
      · have HD : Hid (q.data.toList.drop k = q[k] :: q.data.toList.drop (k + 1)) := hid (List.drop_eq_getElem_cons (by simpa using hlt))
        by_cases h39 : q[k] = 39
        · have g1 : ((q[k].toNat : Int) == 39) = true := by rw [h39]; rfl
          have HN : Hid (rd (!inq) bs (q.data.toList.drop (k + 1)) = some (false, s.data.toList)) := hid (by rw [← HR'.out, HD.out, h39, rd_39])
          clear HD HR' h39
          cases inq
          all_goals
            go_wp2
            go_roundw
            case rel => exact ⟨k + 1, _, bs, by omega, by omega, by go_num, rfl, hB, hown, HN⟩
            case measure => simp [intOf]; omega
        · have g1 : ((q[k].toNat : Int) == 39) = false := u8_ne (n := 39) h39
          cases inq
          · by_cases h92 : q[k] = 92
            · have g2 : ((q[k].toNat : Int) == 92) = true := by rw [h92]; rfl
              have hr := HR'.out
              rw [HD.out, h92] at hr
              obtain ⟨r', hr'⟩ := rd_esc_some hr
              have hk1 : k + 1 < q.size := by
                have h := congrArg List.length hr'
                rw [List.length_drop, len_toList] at h
                simp at h; omega
              have hd2 : q.data.toList.drop (k + 1) = q[k + 1] :: q.data.toList.drop (k + 2) := List.drop_eq_getElem_cons (by simpa using hk1)
              have h2 : q[k + 1] = 39 := by rw [hd2] at hr'; exact (List.cons.inj hr').1
              have g3 : ((q[k + 1].toNat : Int) == 39) = true := by rw [h2]; rfl
              have g4 : ((q[k + 1].toNat : Int) != 39) = false := by rw [h2]; rfl
              have g5 : (((k : Int) + 1) == (q.size : Int)) = false := by simp; omega
              have HN : Hid (rd false (bs ++ [q[k + 1]]) (q.data.toList.drop (k + 2)) = some (false, s.data.toList)) := hid (by rw [← hr, hd2, h2, rd_esc])
              clear hr hr' hd2 HD HR' h39 h92 h2
              go_wp2_with (at_builtin; refine wpList_append_own _ rfl _ _ 27 rfl w.heap.size 5 i0 (.int .u8 0) 1 1 Try.underlying27 hi hz0 hz1 hz2 rfl (by decide) _ _ _ rfl (hown.alloc _) ⟨wr.heap.size, 0, none⟩ 1 1 [.int .u8 q[k + 1].toNat] rfl rfl ?c1 ?c2 ?c3 ?c4 ?c5 ?_)
              case c1 =>
                intro j u hj
                match j, hj with
                | 0, hj => simp at hj; subst hj; simp [Addr.add]
              case c2 => intro u hu; simp at hu; subst hu; rfl
              case c3 => unfold maxLen; omega
              case c4 => omega
              case c5 => have := hB.size; simp; omega
              intro v' w3 hown' hg _
              have hB3 : Below w.heap.size w w3 := ((hB.alloc hB.size _).grown hg (by have := hB.size; simp; omega) (fun k hk => (hown.lt k hk).1))
              have ho3 := own_snoc hown'
              have HO := hid ho3
              clear hown' ho3 hg hown
              go_wp2
              go_roundw
              case rel => exact ⟨k + 2, false, _, by omega, by simp; omega, by go_num, rfl, hB3, HO.out, HN⟩
              case measure => simp [intOf]; omega
            · have g2 : ((q[k].toNat : Int) == 92) = false := u8_ne (n := 92) h92
              have hr := HR'.out
              rw [HD.out] at hr
              have hp := rd_plain_some h39 h92 hr
              have HN : Hid (rd false (bs ++ [q[k]]) (q.data.toList.drop (k + 1)) = some (false, s.data.toList)) := hid (by rw [← hr, rd_plain _ _ h39 h92 hp])
              have cP : ∀ W, Calls Try.prog 11 #[.string (q.extract k (k + 1))] W fun e w' => e = .returned (.bool true) ∧ W = w' := fun W => by
                have h := plain_any (q.extract k (k + 1)) W (by rw [← len_toList, extract_one q k hlt]; simp [maxLen])
                rw [extract_one q k hlt, show plainL [q[k]] = true by unfold plainL allB; simp [hp]] at h
                exact h
              have hsl : ∀ W : World, (Instr.slice 9 (.string q) (some (.int .i64 (k : Int))) (some (.int .i64 ((k : Int) + 1))) none).run Try.prog W = .ok (.string (q.extract k (k + 1))) W := fun W => by
                have h := run_slice_string (P := Try.prog) W 9 q .i64 .i64 (k : Int) ((k : Int) + 1) Try.underlying9 (by omega) (by omega) (by omega)
                simpa using h
              clear hr hp HD HR' h39 h92
              go_wp2_with (first | (go_at_call 11; (with_reducible refine (cP _).mono ?_); rintro e w' ⟨rfl, rfl⟩) | (at_builtin; refine wpList_append_own _ rfl _ _ 27 rfl w.heap.size 5 i0 (.int .u8 0) 1 1 Try.underlying27 hi hz0 hz1 hz2 rfl (by decide) _ _ _ rfl (hown.alloc _) ⟨wr.heap.size, 0, none⟩ 1 1 [.int .u8 q[k].toNat] rfl rfl ?c1 ?c2 ?c3 ?c4 ?c5 ?_))
              case c1 =>
                intro j u hj
                match j, hj with
                | 0, hj => simp at hj; subst hj; simp [Addr.add]
              case c2 => intro u hu; simp at hu; subst hu; rfl
              case c3 => unfold maxLen; omega
              case c4 => omega
              case c5 => have := hB.size; simp; omega
              intro v' w3 hown' hg _
              have hB3 : Below w.heap.size w w3 := ((hB.alloc hB.size _).grown hg (by have := hB.size; simp; omega) (fun k hk => (hown.lt k hk).1))
              have ho3 := own_snoc hown'
              have HO := hid ho3
              clear hown' ho3 hg hown
              go_wp2
              go_roundw
              case rel => exact ⟨k + 1, false, _, by omega, by simp; omega, by go_num, rfl, hB3, HO.out, HN⟩
              case measure => simp [intOf]; omega
          · have HN : Hid (rd true (bs ++ [q[k]]) (q.data.toList.drop (k + 1)) = some (false, s.data.toList)) := hid (by rw [← HR'.out, HD.out, rd_in _ _ h39])
            clear HD HR' h39
            go_wp2_with (at_builtin; refine wpList_append_own _ rfl _ _ 27 rfl w.heap.size 5 i0 (.int .u8 0) 1 1 Try.underlying27 hi hz0 hz1 hz2 rfl (by decide) _ _ _ rfl (hown.alloc _) ⟨wr.heap.size, 0, none⟩ 1 1 [.int .u8 q[k].toNat] rfl rfl ?c1 ?c2 ?c3 ?c4 ?c5 ?_)
            case c1 =>
              intro j u hj
              match j, hj with
              | 0, hj => simp at hj; subst hj; simp [Addr.add]
            case c2 => intro u hu; simp at hu; subst hu; rfl
            case c3 => unfold maxLen; omega
            case c4 => omega
            case c5 => have := hB.size; simp; omega
            intro v' w3 hown' hg _
            have hB3 : Below w.heap.size w w3 := ((hB.alloc hB.size _).grown hg (by have := hB.size; simp; omega) (fun k hk => (hown.lt k hk).1))
            have ho3 := own_snoc hown'
            have HO := hid ho3
            clear hown' ho3 hg hown
            go_wp2
            go_roundw
            case rel => exact ⟨k + 1, true, _, by omega, by simp; omega, by go_num, rfl, hB3, HO.out, HN⟩
            case measure => simp [intOf]; omega
      · obtain rfl : k = q.size := by omega
        have hr := HR'.out
        rw [List.drop_of_length_le (by rw [len_toList]; exact Nat.le_refl _), rd] at hr
        simp only [Option.some.injEq, Prod.mk.injEq] at hr
        obtain ⟨rfl, rfl⟩ := hr
        clear HR' hlt
        have hcv := conv_any hown
        have es : (⟨s.data.toList.toArray⟩ : ByteArray) = s := by cases s; simp
        rw [es] at hcv
        have he : (s.toList == s.toList) = true := by simp
        clear es hown
        go_wp2
        go_ret
        exact ⟨rfl, hB⟩
  · have g1 : (checkL s.data.toList == 0) = false := by simpa using hk
    have e0 : (⟨(quoteL s.data.toList).toArray⟩ : ByteArray) = .empty := by unfold quoteL; rw [if_neg hk]; rfl
    rw [e0] at cQ
    clear e0 hk
    go_enter Try.func3, Try.ntmps3
    go_wp2_with (first | (go_at_call 8; (with_reducible refine (cA _).mono ?_); rintro e w1 ⟨rfl, hb1⟩) | (go_at_call 9; (with_reducible refine (cQ _).mono ?_); rintro e w2 ⟨rfl, hb2⟩) | (go_at_call 10; refine (num_any _ _).mono ?_; rintro e w' ⟨rfl, rfl⟩))
    go_ret
    exact ⟨rfl, hb1.trans (hb2.mono hb1.size)⟩
end Go.Proofs.Ytncfkfpjoohinaa
