/- Contracts of octets.Quote: the text as it is, or within quotes; of what was in memory nothing has turned. No conditions but the size of a string. -/
import Derived.Test.YtncfkfpjoohinaaOctC
import Derived.OneCell
import Derived.Lib.AppendStr
namespace Go.Proofs.Ytncfkfpjoohinaa
open Go.RowKit
open Go.Lib (hid)

theorem info_u8 : (Try.prog.info? 5).map (fun i => (i.zero, i.size, i.bytes)) = some (some (.int .u8 0), 1, 1) := by kernel_rfl

def u8 (c : UInt8) : Value := .int .u8 c.toNat
/-- Block B is a variable that holds a row of octets of the call's own, l. -/
def Out (N B : Nat) (l : List UInt8) (w : World) : Prop :=
  ∃ v, w.heap[B]? = some (.cells #[v] 27 (0, 0)) ∧ w.ownsRow N 5 1 v l.length (l.map u8) ∧ v.ownBlock ≠ some B ∧ N ≤ B

def quoteOf (c : UInt8) : List UInt8 := if c = 39 then [39, 92, 39, 39] else [c]

theorem Out.mk_ {N B : Nat} {l : List UInt8} {w : World} {v : Value} (hB : w.heap[B]? = some (.cells #[v] 27 (0, 0))) (ho : w.ownsRow N 5 1 v l.length (l.map u8)) (hne : v.ownBlock ≠ some B) (hN : N ≤ B) : Out N B l w := ⟨v, hB, ho, hne, hN⟩

/-- Behind an append onto the variable's row, and its store: what was a cell of another kind is no row of octets. -/
theorem own_ne_box {N B n : Nat} {xs : List Value} {w : World} {v x : Value} (hB : w.heap[B]? = some (.cells #[x] 27 (0, 0))) (ho : w.ownsRow N 5 1 v n xs) : v.ownBlock ≠ some B := by
  intro he
  rcases ho.2 with ⟨rfl, _⟩ | ⟨g, cap, cur, rfl, _, hh, _⟩
  · simp [Value.ownBlock] at he
  · simp only [Value.ownBlock, Option.some.injEq] at he
    subst he
    rw [hB] at hh
    simp at hh

theorem Out.stored {N B : Nat} {l2 : List UInt8} {w w1 : World} {v v' : Value} (hbk : w.heap[B]? = some (.cells #[v] 27 (0, 0))) (hne : v.ownBlock ≠ some B) (hNB : N ≤ B)
    (hg : w.grownBy w1 v.ownBlock) (ho : w1.ownsRow N 5 1 v' l2.length (l2.map u8)) : Out N B l2 (w1.setCell ⟨B, 0, none⟩ v') := by
  have hb : w1.heap[B]? = some (.cells #[v] 27 (0, 0)) := (hg.block B (lt_of_block hbk) (fun e => hne e.symm)).trans hbk
  have hn := own_ne_box hb ho
  exact ⟨v', one_setCell hb, ownsRow_setCell_other ho hn v', hn, hNB⟩

theorem own_slice {w : World} {N e k n : Nat} {v : Value} {xs : List Value} (h : w.ownsRow N e k v n xs) : ∃ ao n' cap, v = .slice ao n' cap := by
  rcases h.2 with ⟨hv, _⟩ | ⟨g, cap, cur, hv, _⟩
  · exact ⟨_, _, _, hv⟩
  · exact ⟨_, _, _, hv⟩

def quoteStr : ByteArray := ⟨#[39, 92, 39, 39]⟩

set_option maxHeartbeats 1000000 in
theorem quoteFn (N B : Nat) (l : List UInt8) (c : UInt8) (w : World) (h : Out N B l w) (hl : l.length ≤ 1000000000000) (hN : N ≤ w.heap.size) :
    Calls Try.prog 24 (#[.int .u8 c.toNat] ++ #[.pointer (some ⟨B, 0, none⟩)]) w fun e w' => e = .returned (.tuple #[]) ∧ Out N B (l ++ quoteOf c) w' ∧ Below N w w' := by
  obtain ⟨v, hbk, hown, hne, hNB⟩ := h
  obtain ⟨i0, hi, hz0, hz1, hz2⟩ := info_parts info_u8
  have c0 := cell_of_one hbk
  have hlt := lt_of_block hbk
  by_cases hc : c = 39
  · subst hc
    go_enter Try.func24, Try.ntmps24
    go_wp2_with (at_builtin; refine Lib.wpList_append_own_string _ rfl _ _ 27 9 rfl N 5 i0 Try.underlying27 Try.underlying9 hi hz0 hz1 hz2 _ _ _ rfl hown quoteStr rfl ?c3 ?c4 ?c5 ?_)
    case c3 => unfold maxLen; have : quoteStr.size = 4 := rfl; omega
    case c4 => have : quoteStr.size = 4 := rfl; omega
    case c5 => omega
    intro v' w1 hown' hg _
    have ho2 : w1.ownsRow N 5 1 v' (l ++ quoteOf 39).length ((l ++ quoteOf 39).map u8) := by
      have e4 : quoteStr.size = 4 := rfl
      rw [e4] at hown'
      simpa [quoteOf, Lib.strCells, quoteStr, u8] using hown'
    have hb : w1.heap[B]? = some (.cells #[v] 27 (0, 0)) := (hg.block B hlt (fun e => hne e.symm)).trans hbk
    have c1 := cell_of_one hb
    have f1 := free_of_one hb
    have HO := hid (Out.stored hbk hne hNB hg ho2)
    have HB : Hid (Below N w (w1.setCell ⟨B, 0, none⟩ v')) := hid (((Below.refl N w).grown hg hN (fun k hk => (hown.lt k hk).1)).setCell hNB v')
    have hsl := own_slice ho2
    clear hown' ho2 hg hown hbk hb
    obtain ⟨ao, n', cap, rfl⟩ := hsl
    go_wp2
    refine bodyPost_ret (results_none rfl _ _ _) rfl ?_
    exact ⟨rfl, HO.out, HB.out⟩
  · have g1 : ((c.toNat : Int) == 39) = false := by
      have : c.toNat ≠ 39 := fun e => hc (UInt8.toNat_inj.mp e)
      simp; omega
    go_enter Try.func24, Try.ntmps24
    go_wp2_with (at_builtin; refine wpList_append_own _ rfl _ _ 27 rfl N 5 i0 (.int .u8 0) 1 1 Try.underlying27 hi hz0 hz1 hz2 rfl (by decide) _ _ _ rfl (hown.alloc _) ⟨w.heap.size, 0, none⟩ 1 1 [.int .u8 c.toNat] rfl rfl ?c1 ?c2 ?c3 ?c4 ?c5 ?_)
    case c1 =>
      intro j u hj
      match j, hj with
      | 0, hj => simp at hj; subst hj; simp [Addr.add]
    case c2 => intro u hu; simp at hu; subst hu; rfl
    case c3 => unfold maxLen; omega
    case c4 => omega
    case c5 => simp; omega
    intro v' w1 hown' hg _
    have ho2 : w1.ownsRow N 5 1 v' (l ++ quoteOf c).length ((l ++ quoteOf c).map u8) := by
      simpa [quoteOf, hc, u8] using hown'
    have hbk' : (w.alloc (.cells #[.int .u8 c.toNat] 5)).heap[B]? = some (.cells #[v] 27 (0, 0)) := (Below.heap_alloc w _ B hlt).trans hbk
    have hb : w1.heap[B]? = some (.cells #[v] 27 (0, 0)) := (hg.block B (lt_of_block hbk') (fun e => hne e.symm)).trans hbk'
    have c1 := cell_of_one hb
    have f1 := free_of_one hb
    have HO := hid (Out.stored hbk' hne hNB hg ho2)
    have HB : Hid (Below N w (w1.setCell ⟨B, 0, none⟩ v')) := hid ((((Below.refl N w).alloc hN _).grown hg (by simp; omega) (fun k hk => (hown.lt k hk).1)).setCell hNB v')
    have hsl := own_slice ho2
    clear hown' ho2 hg hown hbk hb hbk'
    obtain ⟨ao, n', cap, rfl⟩ := hsl
    go_wp2
    go_end0
    exact ⟨rfl, HO.out, HB.out⟩

set_option maxHeartbeats 1000000 in
/-- each: whatever I says of the number of octets done and of the world. -/
theorem each_any (g : Nat) (lb : Array Value) (eg : ∀ args w, (callFunc g args).run Try.prog w = .ok (.enter g args) w) (I : Nat → World → Prop) (s : ByteArray) (w : World) (hs : s.size ≤ maxLen)
    (h0 : I 0 w) (hp : ∀ (k : Nat) (h : k < s.size) (W : World), I k W → Calls Try.prog g (#[.int .u8 s[k].toNat] ++ lb) W fun e W' => e = .returned (.tuple #[]) ∧ I (k + 1) W') :
    Calls Try.prog 23 #[.string s, .func (.func g) #[] lb] w fun e w' => e = .returned (.tuple #[]) ∧ I s.size w' := by
  unfold maxLen at hs
  go_enter Try.func23, Try.ntmps23
  go_wp2
  go_loopw [7] (fun i wr => ∃ k : Nat, k ≤ s.size ∧ i = .int .i64 k ∧ I k wr) (fun i _ => s.size - (intOf i).toNat)
  case atStart => exact ⟨0, Nat.zero_le _, rfl, h0⟩
  case round =>
    obtain ⟨k, hk, rfl, hI⟩ := hrel
    by_cases hlt : k < s.size
    · have cS := hp k hlt _ hI
      clear hp h0 hI
      go_wp2_with (go_at_fn g; refine cS.mono ?_; rintro e W' ⟨rfl, hI'⟩)
      go_roundw
      case rel => exact ⟨k + 1, by omega, by go_num, hI'⟩
      case measure => simp [intOf]; omega
    · obtain rfl : k = s.size := by omega
      clear hp h0
      go_wp2
      go_end0
      exact ⟨rfl, hI⟩

/-- What each with Quote's closure makes of l, behind what was there. -/
def quoteAll (l : List UInt8) : List UInt8 := l.flatMap quoteOf
theorem quoteAll_snoc (l : List UInt8) (c : UInt8) : quoteAll (l ++ [c]) = quoteAll l ++ quoteOf c := by simp [quoteAll]
theorem quoteOf_len (c : UInt8) : (quoteOf c).length ≤ 4 := by unfold quoteOf; split <;> simp
theorem quoteAll_len (l : List UInt8) : (quoteAll l).length ≤ 4 * l.length := by
  induction l with
  | nil => simp [quoteAll]
  | cons c r ih =>
    have := quoteOf_len c
    simp only [quoteAll, List.flatMap_cons, List.length_append, List.length_cons] at ih ⊢
    omega
theorem take_snoc (s : ByteArray) (k : Nat) (h : k < s.size) : s.data.toList.take (k + 1) = s.data.toList.take k ++ [s[k]] := by
  rw [List.take_succ_eq_append_getElem (by simpa using h)]; rfl

def QI (N B : Nat) (s : ByteArray) (w0 : World) (k : Nat) (w : World) : Prop := Out N B (39 :: quoteAll (s.data.toList.take k)) w ∧ Below N w0 w

theorem each_quote (N B : Nat) (s : ByteArray) (w : World) (hs : s.size ≤ 16384) (hN : N ≤ w.heap.size) (h : Out N B [39] w) :
    Calls Try.prog 23 #[.string s, .func (.func 24) #[] #[.pointer (some ⟨B, 0, none⟩)]] w fun e w' => e = .returned (.tuple #[]) ∧ Out N B (39 :: quoteAll s.data.toList) w' ∧ Below N w w' := by
  have hE := each_any 24 #[.pointer (some ⟨B, 0, none⟩)] (enters_of Try.func24 (by kernel_rfl) rfl) (QI N B s w) s w (by unfold maxLen; omega)
    ⟨by simpa [quoteAll] using h, Below.refl _ _⟩ (fun k hk W ⟨hO, hB⟩ => by
      have hl := quoteAll_len (s.data.toList.take k)
      have hl2 : (s.data.toList.take k).length ≤ k := List.length_take_le _ _
      refine (quoteFn N B _ s[k] W hO (by simp only [List.length_cons]; omega) (by have := hB.size; omega)).mono fun e W' ⟨he, hO', hB'⟩ => ⟨he, ?_, hB.trans hB'⟩
      rw [take_snoc s k hk, quoteAll_snoc]
      exact hO')
  refine hE.mono fun e w' ⟨he, hO, hB⟩ => ⟨he, ?_, hB⟩
  rwa [List.take_of_length_le (by rw [len_toList]; exact Nat.le_refl _)] at hO

/-- Quote's text and number. -/
def quoteL (l : List UInt8) : List UInt8 := if checkL l = 0 then (if plainL l then l else 39 :: quoteAll l ++ [39]) else []

theorem checkL_zero {l : List UInt8} (h : checkL l = 0) : l.length ≤ 16384 := by
  unfold checkL at h
  split at h
  · split at h
    · cases h
    · omega
  · cases h

theorem out0 (w : World) : Out w.heap.size (w.heap.size + 1) [39] ((w.alloc (.cells #[.int .u8 39] 5)).alloc (.cells #[.slice (some ⟨w.heap.size, 0, none⟩) 1 1] 27)) := by
  have h1 := World.ownsRow_lit (base := w.heap.size) (e := 5) (size := 1) w #[.int .u8 39] 1 (Nat.le_refl _) (by decide) rfl
  have h2 := heap_alloc_new (w.alloc (.cells #[.int .u8 39] 5)) (.cells #[.slice (some ⟨w.heap.size, 0, none⟩) 1 1] 27)
  refine ⟨.slice (some ⟨w.heap.size, 0, none⟩) 1 1, by simpa only [World.size_alloc] using h2, by simpa [u8] using h1.alloc _, ?_, by omega⟩
  simp [Value.ownBlock]

theorem conv_own {w : World} {N g n cap : Nat} {l : List UInt8} (h : w.ownsRow N 5 1 (.slice (some ⟨g, 0, none⟩) n cap) n (l.map u8)) :
    (convert 27 9 (.slice (some ⟨g, 0, none⟩) n cap)).run Try.prog w = .ok (.string ⟨l.toArray⟩) w := by
  have hn : l.length = n := by have := h.1; simpa using this
  subst hn
  refine run_convert_bytes_back (P := Try.prog) w 27 9 5 ⟨g, 0, none⟩ cap l Try.underlying27 Try.underlying5 Try.underlying9 (fun j hj => ?_)
  exact h.cells (g := g) rfl j _ (by simp [hj, u8])

set_option maxHeartbeats 1000000 in
theorem quote_any (s : ByteArray) (w : World) (hs : s.size ≤ 140737488355328) :
    Calls Try.prog 9 #[.string s] w fun e w' => e = .returned (.tuple #[.string ⟨(quoteL s.data.toList).toArray⟩, .int .i64 (checkL s.data.toList)]) ∧ Below w.heap.size w w' := by
  have hm : s.size ≤ maxLen := by unfold maxLen; omega
  have cC := fun W => check_any s W hm
  have cP := fun W => plain_any s W hm
  by_cases hk : checkL s.data.toList = 0
  · rw [hk] at cC
    cases hp : plainL s.data.toList
    · rw [hp] at cP
      have HK := hid hk
      have HP := hid hp
      clear hp hk
      go_enter Try.func9, Try.ntmps9
      have h16 := checkL_zero HK.out
      rw [len_toList] at h16
      obtain ⟨i0, hi, hz0, hz1, hz2⟩ := info_parts info_u8
      go_wp2_with (first | (go_at_call 21; refine (cC _).mono ?_; rintro e w' ⟨rfl, rfl⟩) | (go_at_call 11; refine (cP _).mono ?_; rintro e w' ⟨rfl, rfl⟩))
      refine (each_quote w.heap.size (w.heap.size + 1) s _ h16 (by simp; omega) (out0 w)).mono ?_
      rintro e w1 ⟨rfl, hO, hB⟩
      obtain ⟨v, hbk, hown, hne, -⟩ := hO
      have hB1 : Below w.heap.size w w1 := (((Below.refl _ w).alloc (Nat.le_refl _) _).alloc (by simp) _).trans hB
      have hq := quoteAll_len s.data.toList
      rw [len_toList] at hq
      obtain ⟨n1, hn1⟩ : ∃ n1, (39 :: quoteAll s.data.toList).length = n1 := ⟨_, rfl⟩
      have hn2 : n1 ≤ 1000000 := by rw [← hn1, List.length_cons]; omega
      rw [hn1] at hown
      have HN := hid hn1
      have c0 := cell_of_one hbk
      clear hn1 hq hB
      go_wp2_with (at_builtin; refine wpList_append_own _ rfl _ _ 27 rfl w.heap.size 5 i0 (.int .u8 0) 1 1 Try.underlying27 hi hz0 hz1 hz2 rfl (by decide) _ _ _ rfl (hown.alloc _) ⟨w1.heap.size, 0, none⟩ 1 1 [.int .u8 39] rfl rfl ?c1 ?c2 ?c3 ?c4 ?c5 ?_)
      case c1 =>
        intro j u hj
        match j, hj with
        | 0, hj => simp at hj; subst hj; simp [Addr.add]
      case c2 => intro u hu; simp at hu; subst hu; rfl
      case c3 => unfold maxLen; omega
      case c4 => omega
      case c5 => have := hB1.size; simp; omega
      intro v' w2 hown' hg _
      have hB2 : Below w.heap.size w w2 := ((hB1.alloc hB1.size _).grown hg (by have := hB1.size; simp; omega) (fun k hk => (hown.lt k hk).1))
      obtain ⟨g, cap, rfl⟩ : ∃ g cap, v' = .slice (some ⟨g, 0, none⟩) (n1 + 1) cap := by
        rcases hown'.2 with ⟨_, h0⟩ | ⟨g, cap, cur, hv, _⟩
        · omega
        · exact ⟨g, cap, hv⟩
      have ho2 : w2.ownsRow w.heap.size 5 1 (.slice (some ⟨g, 0, none⟩) (n1 + 1) cap) (n1 + 1) ((39 :: quoteAll s.data.toList ++ [39]).map u8) := by
        simpa [u8] using hown'
      have hcv := conv_own ho2
      clear hown' ho2 hg hown hbk hne
      go_wp2
      go_ret2
      exact ⟨by unfold quoteL; rw [if_pos HK.out, HP.out, HK.out]; rfl, hB2⟩
    · rw [hp] at cP
      have HK := hid hk
      have HP := hid hp
      clear hp hk
      have cL := fun W => clone_any s W (by omega)
      go_enter Try.func9, Try.ntmps9
      go_wp2_with (first | (go_at_call 21; refine (cC _).mono ?_; rintro e w' ⟨rfl, rfl⟩) | (go_at_call 11; refine (cP _).mono ?_; rintro e w' ⟨rfl, rfl⟩) | (go_at_call 22; refine (cL _).mono ?_; rintro e w' ⟨rfl, hb⟩))
      go_ret2
      exact ⟨by unfold quoteL; rw [if_pos HK.out, if_pos HP.out, HK.out]; rfl, hb⟩
  · have HK := hid hk
    have g1 : (checkL s.data.toList == 0) = false := by simpa using hk
    clear hk
    go_enter Try.func9, Try.ntmps9
    go_wp2_with (first | (go_at_call 21; refine (cC _).mono ?_; rintro e w' ⟨rfl, rfl⟩))
    go_ret2
    exact ⟨by unfold quoteL; rw [if_neg HK.out]; rfl, Below.refl _ _⟩
end Go.Proofs.Ytncfkfpjoohinaa
