/- The walk of GlobStars: a pattern with a star on both sides matches all texts that have a part that it matches. Conditions: a pattern and texts of at most 2^20 octets. -/
import Derived.Test.YtcaenkffoilleaaGlobL
import Derived.Deep.AppendLies
namespace Go.Proofs.Ytcaenkffoilleaa
open Go.RowKit
open Go.Lib (hid)

def starL (l : List Ch) : List Ch := (42, false) :: (l ++ [(42, false)])
theorem runsOf_star {l : List Ch} (h : ∀ c ∈ l, quo c 91 = false) : runsOf (starL l) = [] :: (runsOf l ++ [[]]) := by
  unfold runsOf
  rw [partsL_plain (p := starL l) (fun c hc => by
    rcases List.mem_cons.1 hc with rfl | hc
    · rfl
    · rcases List.mem_append.1 hc with hc | hc
      · exact h c hc
      · simp at hc; subst hc; rfl), partsL_plain h]
  unfold starL
  rw [List.map_cons, List.map_append]
  exact runsL_stars _ _ rfl rfl _
theorem stars_match {l : List Ch} (h : ∀ c ∈ l, quo c 91 = false) {a b c : List UInt8} (hm : matchL (runsOf l) b = true) : matchL (runsOf (starL l)) (a ++ b ++ c) = true := by
  rw [runsOf_star h, matchL_wl]
  rw [matchL_wl] at hm
  obtain ⟨r0, rs, hrs⟩ := runsOf_shape l
  have h1 := Wl_snoc (r := []) (x := c) (u := []) hm rfl
  rw [List.append_nil] at h1
  rw [hrs] at h1 ⊢
  exact ⟨[], a, b ++ c, by simp, rfl, h1⟩

set_option maxHeartbeats 1000000 in
theorem openP_any (A : Option Addr) (cap : Nat) (l : List Ch) (w : World) (hl : l.length ≤ 1099511627776) (h : CharsAt w A l) :
    Calls Try.prog 12 #[.slice A l.length cap] w fun e w' => e = .returned (.bool (l.any fun c => quo c 91)) ∧ w = w' := by
  go_enter Try.func12, Try.ntmps12
  go_wp2
  go_loop [3] (fun i => ∃ k : Nat, k ≤ l.length ∧ i = .int .i64 k ∧ Hid ((l.any fun c => quo c 91) = ((l.drop k).any fun c => quo c 91))) (fun i => l.length - (intOf i).toNat)
  case atStart => exact ⟨0, Nat.zero_le _, rfl, hid rfl⟩
  case round =>
    obtain ⟨k, hk, rfl, HE⟩ := hrel
    by_cases hlt : k < l.length
    · obtain ⟨g, o, rfl, p1, p2⟩ := h k hlt
      have hd : l.drop k = l[k] :: l.drop (k + 1) := List.drop_eq_getElem_cons hlt
      obtain ⟨a, q, hlk⟩ : ∃ a q, l[k] = (a, q) := ⟨l[k].1, l[k].2, rfl⟩
      have hb := quo_beq a q 91 (by omega)
      rw [hlk] at p1 p2
      have HS : Hid ((l.any fun c => quo c 91) = ((!q && ((a.toNat : Int) == 91)) || ((l.drop (k + 1)).any fun c => quo c 91))) := hid (by
        rw [HE.out, hd, List.any_cons, hlk]; exact congrArg (· || _) hb)
      clear HE hd hlk hb h
      by_cases h1 : ((a.toNat : Int) == 91) = true
      · cases q
        · have HN : Hid ((l.any fun c => quo c 91) = true) := hid (by rw [HS.out, h1]; rfl)
          clear HS
          go_wp2
          go_ret
          exact ⟨by rw [HN.out]; rfl, rfl⟩
        · have HN : Hid ((l.any fun c => quo c 91) = ((l.drop (k + 1)).any fun c => quo c 91)) := hid (by rw [HS.out]; rfl)
          clear HS
          go_wp2
          go_round
          case rel => exact ⟨k + 1, by omega, by go_num, HN⟩
          case measure => simp [intOf]; omega
      · have g1 : ((a.toNat : Int) == 91) = false := by simpa using h1
        have HN : Hid ((l.any fun c => quo c 91) = ((l.drop (k + 1)).any fun c => quo c 91)) := hid (by rw [HS.out, g1]; simp)
        clear HS h1
        go_wp2
        go_round
        case rel => exact ⟨k + 1, by omega, by go_num, HN⟩
        case measure => simp [intOf]; omega
    · have HN : Hid ((l.any fun c => quo c 91) = false) := hid (by rw [HE.out, List.drop_of_length_le (by omega)]; rfl)
      clear HE h
      go_wp2
      go_ret
      exact ⟨by rw [HN.out]; rfl, rfl⟩

theorem app_toList (X Y : ByteArray) : (X ++ Y).data.toList = X.data.toList ++ Y.data.toList := by simp
theorem size_app (X Y : ByteArray) : (X ++ Y).size = X.size + Y.size := by rw [← len_toList, app_toList, List.length_append, len_toList, len_toList]

theorem news_chars {W : World} {g o : Nat} {l : List Ch} (h : CharsAt W (some ⟨g, o, none⟩) l) : ∀ j u, (chCells l)[j]? = some u → W.cell? ((⟨g, o, none⟩ : Addr).add j) = some u := fun j u hj => by
  rw [Addr.add_lit]
  have hlen := chCells_len l
  have hj2 : j < l.length * 2 := by
    rcases Nat.lt_or_ge j (chCells l).length with hh | hh
    · omega
    · rw [List.getElem?_eq_none hh] at hj; cases hj
  obtain ⟨c1, c2⟩ := h.at_ (j / 2) (by omega)
  obtain ⟨d1, d2⟩ := chCells_at l (j / 2) (by omega)
  rcases Nat.mod_two_eq_zero_or_one j with e | e
  · rw [show j / 2 * 2 = j by omega] at d1 c1
    rw [d1] at hj
    cases hj
    exact c1
  · rw [show j / 2 * 2 + 1 = j by omega] at d2
    rw [Nat.add_assoc, show j / 2 * 2 + 1 = j by omega] at c2
    rw [d2] at hj
    cases hj
    exact c2
theorem chCells_one (l : List Ch) : ∀ u ∈ chCells l, u.oneCell' = true := fun u hu => by
  obtain ⟨c, _, hu⟩ := List.mem_flatMap.1 hu
  simp at hu
  rcases hu with rfl | rfl <;> rfl

theorem start_below {N : Nat} {w1 w2 : World} {o : Obj} (_hn : N ≤ w1.heap.size) (hg : (w1.alloc o).grownBy w2 none) : Below w1.heap.size w1 w2 :=
  ((Below.refl _ w1).alloc (Nat.le_refl _) o).grown hg (by simp) (fun j hj => by cases hj)

theorem chStar (l : List Ch) : chCells (starL l) = [.int .u8 42, .bool false] ++ chCells l ++ [.int .u8 42, .bool false] := by simp [chCells, starL]
theorem starL_len (l : List Ch) : (starL l).length = 1 + l.length + 1 := by simp [starL]; omega
theorem own_cap {W : World} {N e k g n cap : Nat} {xs : List Value} (h : W.ownsRow N e k (.slice (some ⟨g, 0, none⟩) n cap) n xs) : n ≤ cap := by
  rcases h.2 with ⟨h0, _⟩ | ⟨g', cap', cur, h', _, _, hc, _⟩
  · cases h0
  · cases h'; exact hc
theorem stars_below {N na nb : Nat} {va vb : Value} {xa xb : List Value} {w w1 w2 w3 w4 : World} {o1 o3 : Obj} (hb1 : Below N w w1) (hn1 : N ≤ w1.heap.size) (hga : (w1.alloc o1).grownBy w2 none) (hoa : w2.ownsRow N 29 2 va na xa)
    (hgb : w2.grownBy w3 va.ownBlock) (hob : w3.ownsRow N 29 2 vb nb xb) (hgc : (w3.alloc o3).grownBy w4 vb.ownBlock) : Below N w w4 := by
  have s1 : N ≤ (w1.alloc o1).heap.size := by simp; omega
  have h2 : Below N w w2 := (hb1.alloc hn1 _).grown hga s1 (fun j hj => by cases hj)
  have n2 : N ≤ w2.heap.size := Nat.le_trans s1 hga.size
  have h3 : Below N w w3 := h2.grown hgb n2 (fun j hj => (hoa.lt j hj).1)
  have n3 : N ≤ w3.heap.size := Nat.le_trans n2 hgb.size
  exact (h3.alloc n3 _).grown hgc (by simp; omega) (fun j hj => (hob.lt j hj).1)
theorem stars_below2 {N nb : Nat} {vb : Value} {xb : List Value} {w w1 w3 w4 : World} {o1 o3 : Obj} (hb1 : Below N w w1) (hn1 : N ≤ w1.heap.size) (hga : (w1.alloc o1).grownBy w3 none)
    (hob : w3.ownsRow N 29 2 vb nb xb) (hgc : (w3.alloc o3).grownBy w4 vb.ownBlock) : Below N w w4 := by
  have s1 : N ≤ (w1.alloc o1).heap.size := by simp; omega
  have h2 : Below N w w3 := (hb1.alloc hn1 _).grown hga s1 (fun j hj => by cases hj)
  have n2 : N ≤ w3.heap.size := Nat.le_trans s1 hga.size
  exact (h2.alloc n2 _).grown hgc (by simp; omega) (fun j hj => (hob.lt j hj).1)
theorem run_append_zero {P : Program} {w : World} (base : Nat) (t ty e : TypeId) (i : TypeInfo) (size : Nat) (ht : P.underlying t = some (.slice e)) (hi : P.info? e = some i)
    (v : Value) (n : Nat) (xs : List Value) (hown : w.ownsRow base e size v n xs) (hn : 0 < n) (A : Option Addr) (c : Nat) :
    (Builtin.append_ #[t, t] ty #[v, .slice A 0 c]).run P w = .ok v w := by
  obtain ⟨g, cap, rfl, _, _⟩ := hown.form hn
  have hnc := own_cap hown
  cases A <;> simp [Builtin.append_, run_underlying ht, sizeOf, typeInfo, hi, Builtin.lenOf, Builtin.firstCells, hnc, loadCells, loadCellsFrom, storeCells]
theorem wpList_append_zero {P : Program} {w : World} {ops : Array Oper} {rest : List Oper} {o : Oper} {a : Act} {Q : Exit → Act → World → Prop} (hgd : o.guard = none) (s x : Operand) (t : TypeId)
    (ho : o.op = .call { callee := .builtin .append, args := #[s, x], argTypes := #[t, t] })
    (base : Nat) (e : TypeId) (i : TypeInfo) (size : Nat) (ht : P.underlying t = some (.slice e)) (hi : P.info? e = some i)
    (v : Value) (n : Nat) (xs : List Value) (hs : a.eval s = v) (hown : w.ownsRow base e size v n xs) (hn : 0 < n) (A : Option Addr) (c : Nat) (hx : a.eval x = .slice A 0 c)
    (h : wpList P ops Q rest (a.put o.dst v) w) : wpList P ops Q (o :: rest) a w := by
  refine wpList_plain hgd fun K hK => ?_
  have hrun := run_append_zero (P := P) (w := w) base t o.type e i size ht hi v n xs hown hn A c
  unfold Oper.wp
  simp [execOp, ho, resolve, invoke, builtin, hs, hx, hrun, Result.andThen]
  exact hK _ _ h

set_option maxHeartbeats 2000000 in
theorem stars_some (g o : Nat) (cap : Nat) (l : List Ch) (a b c : ByteArray) (w : World) (hl0 : 0 < l.length) (hl : l.length ≤ 1048576) (hcap : l.length ≤ cap) (h : CharsAt w (some ⟨g, o, none⟩) l) (ha : a.size ≤ 1048576) (hb : b.size ≤ 1048576) (hc : c.size ≤ 1048576) :
    Calls Try.prog 4 #[.slice (some ⟨g, o, none⟩) l.length cap, .string a, .string b, .string c] w fun e w' => e = .returned (.bool true) ∧ Below w.heap.size w w' := by
  obtain ⟨i0, hi, hz0, hz1, hz2⟩ := info_parts info_char
  have cO := fun W (hW : Below w.heap.size w W) => openP_any (some ⟨g, o, none⟩) cap l W (by omega) (h.below hW)
  go_enter Try.func4, Try.ntmps4
  go_wp2_with (first
    | (go_at_call 11; (with_reducible refine (alive_any _).mono ?_); rintro e w1 ⟨rfl, hb1⟩; have hn1 := hb1.size; have hch1 := h.below hb1)
    | (at_builtin; refine wpList_append_lies _ rfl _ _ 23 rfl w.heap.size 29 i0 _ 2 2 Try.underlying23 hi hz0 hz1 hz2 rfl (by decide) (.slice none 0 0) (0) ([]) rfl (World.ownsRow_nil _ _ _ _) ⟨w1.heap.size, 0, none⟩ 1 1 [.int .u8 42, .bool false] rfl rfl (World.news_of_block (cs := #[.int .u8 42, .bool false]) (t := 29) (fr := (0, 0)) (heap_alloc_new w1 _)) (by simp [Value.oneCell']) (by omega) (by unfold maxLen; omega) (by omega) (Nat.le_trans hn1 (by simp)) _ rfl ?_; intro ga ca w2 hoa hga hata hlta; have hb2 := start_below hn1 hga; have hch2 := hch1.below hb2)
    | (at_builtin; refine wpList_append_lies _ rfl _ _ 23 rfl w.heap.size 29 i0 _ 2 2 Try.underlying23 hi hz0 hz1 hz2 rfl (by decide) (.slice (some ⟨ga, 0, none⟩) 1 ca) 1 [.int .u8 42, .bool false] rfl hoa ⟨g, o, none⟩ l.length cap (chCells l) rfl (chCells_len l) (news_chars hch2) (chCells_one l) (by omega) (by unfold maxLen; omega) (by omega) (Nat.le_trans hn1 hb2.size) _ rfl ?_; intro gb cb w3 hob hgb hatb hltb)
    | (at_builtin; refine wpList_append_lies _ rfl _ _ 23 rfl w.heap.size 29 i0 _ 2 2 Try.underlying23 hi hz0 hz1 hz2 rfl (by decide) (.slice (some ⟨gb, 0, none⟩) (1 + l.length) cb) (1 + l.length) ([.int .u8 42, .bool false] ++ chCells l) rfl (hob.alloc _) ⟨w3.heap.size, 0, none⟩ 1 1 [.int .u8 42, .bool false] rfl rfl (World.news_of_block (cs := #[.int .u8 42, .bool false]) (t := 29) (fr := (0, 0)) (heap_alloc_new w3 _)) (by simp [Value.oneCell']) (by omega) (by unfold maxLen; omega) (by omega) (Nat.le_trans (Nat.le_trans hn1 (Nat.le_trans hb2.size hgb.size)) (by simp)) _ rfl ?_; intro gc cc w4 hoc hgc hatc hltc))
  have hB4 := stars_below hb1 hn1 hga hoa hgb hob hgc
  have hcc := own_cap hoc
  have hQ : CharsAt w4 (some ⟨gc, 0, none⟩) (starL l) := CharsAt.of_own (cap := cc) (n := 1 + l.length + 1) (by rw [chStar]; exact hoc)
  have cO4 := cO w4 hB4
  have cP := match_free (some ⟨g, o, none⟩) cap l b w4 (by omega) hcap (by omega) (h.below hB4)
  have cQ := fun W (hW : Below w4.heap.size w4 W) => match_free (some ⟨gc, 0, none⟩) cc (starL l) ((a ++ b) ++ c) W (by rw [starL_len]; omega) (by rw [starL_len]; exact hcc) (by rw [size_app, size_app]; omega) (hQ.below hW)
  simp only [starL_len, app_toList] at cQ
  clear cO hQ hb1 hn1 hch1 hoa hga hata hlta hb2 hch2 hob hgb hatb hltb hoc hgc hatc hltc h
  cases hfl : l.any fun c => quo c 91 with
  | true =>
    rw [hfl] at cO4
    clear hfl cP cQ
    refine cO4.mono ?_
    rintro e w5 ⟨rfl, rfl⟩
    go_wp2
    go_ret
    exact ⟨rfl, hB4⟩
  | false =>
    rw [hfl] at cO4
    have hall : ∀ c ∈ l, quo c 91 = false := by simpa using hfl
    cases hm : matchL (runsOf l) b.data.toList with
    | false =>
      rw [hm] at cP
      clear hfl hall hm cQ
      refine cO4.mono ?_
      rintro e w5 ⟨rfl, rfl⟩
      go_wp2_with (go_at_call 8; (with_reducible refine cP.mono ?_); rintro e w6 ⟨rfl, hb6⟩)
      go_ret
      exact ⟨rfl, hB4.trans (hb6.mono hB4.size)⟩
    | true =>
      have hst := stars_match hall (a := a.data.toList) (c := c.data.toList) hm
      rw [hm] at cP
      rw [hst] at cQ
      clear hfl hall hm hst
      refine cO4.mono ?_
      rintro e w5 ⟨rfl, rfl⟩
      go_wp2_with (go_at_call 8; first | ((with_reducible refine cP.mono ?_); rintro e w6 ⟨rfl, hb6⟩; have cQ6 := cQ w6 hb6) | ((with_reducible refine cQ6.mono ?_); rintro e w7 ⟨rfl, hb7⟩))
      go_ret
      exact ⟨rfl, hB4.trans ((hb6.trans (hb7.mono hb6.size)).mono hB4.size)⟩

set_option maxHeartbeats 2000000 in
theorem stars_none (A : Option Addr) (cap : Nat) (a b c : ByteArray) (w : World) (ha : a.size ≤ 1048576) (hb : b.size ≤ 1048576) (hc : c.size ≤ 1048576) :
    Calls Try.prog 4 #[.slice A 0 cap, .string a, .string b, .string c] w fun e w' => e = .returned (.bool true) ∧ Below w.heap.size w w' := by
  obtain ⟨i0, hi, hz0, hz1, hz2⟩ := info_parts info_char
  have hnil : ∀ W : World, CharsAt W A [] := fun W k hk => by cases hk
  have cO4 := fun W => openP_any A cap [] W (by simp) (hnil W)
  go_enter Try.func4, Try.ntmps4
  go_wp2_with (first
    | (go_at_call 11; (with_reducible refine (alive_any _).mono ?_); rintro e w1 ⟨rfl, hb1⟩; have hn1 := hb1.size)
    | (at_builtin; refine wpList_append_lies _ rfl _ _ 23 rfl w.heap.size 29 i0 _ 2 2 Try.underlying23 hi hz0 hz1 hz2 rfl (by decide) (.slice none 0 0) (0) ([]) rfl (World.ownsRow_nil _ _ _ _) ⟨w1.heap.size, 0, none⟩ 1 1 [.int .u8 42, .bool false] rfl rfl (World.news_of_block (cs := #[.int .u8 42, .bool false]) (t := 29) (fr := (0, 0)) (heap_alloc_new w1 _)) (by simp [Value.oneCell']) (by omega) (by unfold maxLen; omega) (by omega) (Nat.le_trans hn1 (by simp)) _ rfl ?_; intro ga ca w2 hoa hga hata hlta; have hb2 := start_below hn1 hga)
    | (at_builtin; refine wpList_append_zero rfl _ _ 23 rfl w.heap.size 29 i0 2 Try.underlying23 hi (.slice (some ⟨ga, 0, none⟩) 1 ca) 1 [.int .u8 42, .bool false] rfl hoa (by decide) A cap rfl ?_)
    | (at_builtin; refine wpList_append_lies _ rfl _ _ 23 rfl w.heap.size 29 i0 _ 2 2 Try.underlying23 hi hz0 hz1 hz2 rfl (by decide) (.slice (some ⟨ga, 0, none⟩) 1 ca) 1 [.int .u8 42, .bool false] rfl (hoa.alloc _) ⟨w2.heap.size, 0, none⟩ 1 1 [.int .u8 42, .bool false] rfl rfl (World.news_of_block (cs := #[.int .u8 42, .bool false]) (t := 29) (fr := (0, 0)) (heap_alloc_new w2 _)) (by simp [Value.oneCell']) (by omega) (by unfold maxLen; omega) (by omega) (Nat.le_trans (Nat.le_trans hn1 hb2.size) (by simp)) _ rfl ?_; intro gc cc w4 hoc hgc hatc hltc))
  have hB4 := stars_below2 hb1 hn1 hga hoa hgc
  have hcc := own_cap hoc
  have hQ : CharsAt w4 (some ⟨gc, 0, none⟩) (starL []) := CharsAt.of_own (cap := cc) (n := 1 + 1) hoc
  have cO5 := cO4 w4
  have cP := match_free A cap [] b w4 (by simp) (by simp) (by omega) (hnil w4)
  have cQ := fun W (hW : Below w4.heap.size w4 W) => match_free (some ⟨gc, 0, none⟩) cc (starL []) ((a ++ b) ++ c) W (by simp [starL]) hcc (by rw [size_app, size_app]; omega) (hQ.below hW)
  simp only [app_toList] at cQ
  simp only [List.length_nil] at cP cO5
  clear cO4 hQ hb1 hn1 hoa hga hata hlta hb2 hoc hgc hatc hltc hnil
  cases hm : matchL (runsOf []) b.data.toList with
  | false =>
    rw [hm] at cP
    clear hm cQ
    refine cO5.mono ?_
    rintro e w5 ⟨rfl, rfl⟩
    go_wp2_with (go_at_call 8; (with_reducible refine cP.mono ?_); rintro e w6 ⟨rfl, hb6⟩)
    go_ret
    exact ⟨rfl, hB4.trans (hb6.mono hB4.size)⟩
  | true =>
    have hst := stars_match (l := []) (fun c hc => by cases hc) (a := a.data.toList) (c := c.data.toList) hm
    rw [hm] at cP
    rw [hst] at cQ
    clear hm hst
    refine cO5.mono ?_
    rintro e w5 ⟨rfl, rfl⟩
    go_wp2_with (go_at_call 8; first | ((with_reducible refine cP.mono ?_); rintro e w6 ⟨rfl, hb6⟩; have cQ6 := cQ w6 hb6) | (refine cQ6.mono ?_; rintro e w7 ⟨rfl, hb7⟩))
    go_ret
    exact ⟨rfl, hB4.trans ((hb6.trans (hb7.mono hb6.size)).mono hB4.size)⟩

theorem stars_walk (A : Option Addr) (cap : Nat) (l : List Ch) (a b c : ByteArray) (w : World) (hl : l.length ≤ 1048576) (hcap : l.length ≤ cap) (h : CharsAt w A l) (ha : a.size ≤ 1048576) (hb : b.size ≤ 1048576) (hc : c.size ≤ 1048576) :
    Calls Try.prog 4 #[.slice A l.length cap, .string a, .string b, .string c] w fun e w' => e = .returned (.bool true) ∧ Below w.heap.size w w' := by
  by_cases hl0 : 0 < l.length
  · obtain ⟨g, o, rfl, -⟩ := h 0 hl0
    exact stars_some g o cap l a b c w hl0 hl hcap h ha hb hc
  · have : l.length = 0 := by omega
    rw [this]
    exact stars_none A cap a b c w ha hb hc
theorem small_stars {H : Type} {d : DataW H} {s t u : ByteArray} (hk : Rows.uptoSmall H [d, .lit (.string s.data.toList), .lit (.string t.data.toList), .lit (.string u.data.toList)] = true) : Rows.uptoBulk d ≤ 1048576 ∧ s.size ≤ 1048576 ∧ t.size ≤ 1048576 ∧ u.size ≤ 1048576 := by
  have h : Rows.uptoBulkAll [d, DataW.lit (H := H) (.string s.data.toList), DataW.lit (H := H) (.string t.data.toList), DataW.lit (H := H) (.string u.data.toList)] ≤ 1048576 := of_decide_eq_true hk
  simp only [Rows.uptoBulkAll] at h
  rw [show ∀ s : ByteArray, Rows.uptoBulk (DataW.lit (H := H) (.string s.data.toList)) = s.data.toList.length + 1 from fun s => by simp only [Rows.uptoBulk], show ∀ s : ByteArray, Rows.uptoBulk (DataW.lit (H := H) (.string s.data.toList)) = s.data.toList.length + 1 from fun s => by simp only [Rows.uptoBulk], show ∀ s : ByteArray, Rows.uptoBulk (DataW.lit (H := H) (.string s.data.toList)) = s.data.toList.length + 1 from fun s => by simp only [Rows.uptoBulk], len_toList, len_toList, len_toList] at h
  omega
theorem stars_upto {H : Type} (A : Option Addr) (cap : Nat) (l : List Ch) (d : DataW H) (a b c : ByteArray) (w : World) (hcap : l.length ≤ cap) (h : CharsAt w A l) (hd : l.length ≤ Rows.uptoBulk d) (_ha : a.size ≤ 140737488351232) (_hb : b.size ≤ 140737488351232) (_hc : c.size ≤ 140737488351232)
    (hk : Rows.uptoSmall H [d, .lit (.string a.data.toList), .lit (.string b.data.toList), .lit (.string c.data.toList)] = true) :
    Calls Try.prog 4 #[.slice A l.length cap, .string a, .string b, .string c] w fun e w' => e = .returned (.bool true) ∧ Below w.heap.size w w' :=
  have hs := small_stars hk
  stars_walk A cap l a b c w (Nat.le_trans hd hs.1) hcap h hs.2.1 hs.2.2.1 hs.2.2.2
end Go.Proofs.Ytcaenkffoilleaa
