/- The program's Format and Conversions. Conditions: sizes; Go's table of bits is laid. -/
import Derived.Test.YtckmgcdiclkoeaaDoorPpK
import Derived.Test.YtckmgcdiclkoeaaDoorPpD
namespace Go.Proofs.YtckmgcdiclkoeaaDoor
open Go.RowKit
open Go.Lib (hid)

def aheadN (l : List Cv) : Nat := (l.map fun c => c.ahead.length).sum
theorem pad_len (wd : Nat) (l z : Bool) (s : List UInt8) : (laidL wd l z s).length ≤ s.length + wd := by
  have h := congrArg List.length (sign_cat s)
  rw [List.length_append] at h
  unfold laidL
  split
  · rw [List.length_append, List.length_replicate]; omega
  · split
    · rw [List.length_append, List.length_append, List.length_replicate]; omega
    · rw [List.length_append, List.length_replicate]; omega
theorem told_len (x : Sp) (hx : x.wide ≤ 999) (a : List UInt8) : (toldL x a).1.length ≤ a.length + 1099 := by
  rw [told_text]
  simp only
  rw [wide_laid]
  have h1 := pad_len x.wide x.left (x.zeros && numB x.letter) (textC x.letter a)
  have h2 := text_len x.letter a
  omega
theorem tell_len : ∀ (l : List Cv) (args : List (List UInt8)), (∀ x ∈ l, x.sp.wide ≤ 999) → (tellC l args).text.length + sizeTs (tellC l args).left ≤ aheadN l + 1100 * l.length + sizeTs args
  | [], args, _ => by simp [tellC, aheadN]
  | c :: r, args, h => by
    have ih := tell_len r args.tail (fun x hx => h x (by simp [hx]))
    have ht := told_len c.sp (h c (by simp)) (argL args)
    have hs : (argL args).length + sizeTs args.tail ≤ sizeTs args := by
      cases args with
      | nil => simp [argL]
      | cons a b => simp only [argL, List.headD_cons, List.tail_cons, sizeTs, List.map_cons, List.sum_cons]; omega
    have e : aheadN (c :: r) = c.ahead.length + aheadN r := by simp [aheadN]
    rw [tellC, e]
    simp only [List.length_append, List.length_cons]
    omega
theorem tell_st : ∀ (l : List Cv) (args : List (List UInt8)), (tellC l args).st ≤ 1
  | [], args => by simp [tellC]
  | c :: r, args => by
    have h1 := tell_st r args.tail
    have h2 := badC_le c.sp.letter (argL args)
    rw [tellC, told_text]
    simp only
    omega
/-- A round takes as many arguments as it has conversions: the text that it tells is paid by them. -/
theorem size_step (T L L' s s' F n : Nat) (hn : 1 ≤ n) (hL : 1 ≤ L') (he : L' = L - n) (h : T + s' ≤ F + 1100 * n + s) : T + L' * (F + 1100) + s' ≤ L * (F + 1100) + s := by
  obtain ⟨d, rfl⟩ : ∃ d, L = L' + n := ⟨0, by omega⟩
  have h1 : (L' + n) * (F + 1100) = L' * (F + 1100) + n * (F + 1100) := Nat.add_mul _ _ _
  have h2 : n * (F + 1100) = n * F + n * 1100 := Nat.mul_add _ _ _
  have h3 : F ≤ n * F := Nat.le_mul_of_pos_left F hn
  omega
theorem spec_wide2 (t : List UInt8) : (specL t).wide ≤ 999 := by
  have key : ∀ a b k (u : List UInt8), (specB a b k u).wide ≤ 999 := fun a b k u => by
    have hd : decN (widthL u) ≤ 999 := decN_small _ (width_all u) (width_len u).1
    unfold specB
    split
    · exact Nat.zero_le _
    · split
      · exact hd
      · exact Nat.zero_le _
  cases t with
  | nil => exact key _ _ _ _
  | cons c r =>
    rw [specL_cons]
    split
    · exact Nat.zero_le _
    · split <;> exact key _ _ _ _
theorem plan_facts : ∀ (n : Nat) (s acc : List UInt8), s.length ≤ n → aheadN (planL s acc).cvs + (planL s acc).behind.length ≤ acc.length + s.length ∧ (planL s acc).cvs.length ≤ s.length ∧ ∀ x ∈ (planL s acc).cvs, letterB x.sp.letter = true ∧ x.sp.wide ≤ 999 := by
  intro n
  induction n with
  | zero =>
    intro s acc h
    obtain rfl := List.eq_nil_of_length_eq_zero (by omega : s.length = 0)
    rw [planL_nil]
    simp [aheadN]
  | succ n ih =>
    intro s acc h
    cases s with
    | nil =>
      rw [planL_nil]
      simp [aheadN]
    | cons c t =>
      simp only [List.length_cons] at h
      by_cases h37 : c = 37
      · subst h37
        rw [planL_cons, if_neg (show ¬ ((37 : UInt8) = 92 ∧ 0 < (oneL t).2) from fun e => absurd e.1 (by decide)), if_neg (show ¬ (37 : UInt8) ≠ 37 from fun e => e rfl)]
        by_cases h0 : (specL t).letter = 0
        · rw [if_pos h0]
          simp [aheadN]
        · rw [if_neg h0]
          rcases spec_size t with hz | ⟨z1, z2, z3, z4⟩
          · exact absurd hz h0
          by_cases h37 : (specL t).letter = 37
          · rw [if_pos h37]
            have := ih (t.drop ((specL t).size - 1)) (acc ++ [37]) (by rw [List.length_drop]; omega)
            rw [List.length_drop, List.length_append, List.length_singleton] at this
            simp only [List.length_cons]
            exact ⟨by omega, by omega, this.2.2⟩
          · rw [if_neg h37]
            have := ih (t.drop ((specL t).size - 1)) [] (by rw [List.length_drop]; omega)
            rw [List.length_drop] at this
            simp only [List.length_cons, Pl.more, aheadN, List.map_cons, List.sum_cons] at this ⊢
            refine ⟨by simp only [List.length_nil] at this; omega, by omega, fun x hx => ?_⟩
            rcases List.mem_cons.1 hx with rfl | hx
            · exact ⟨z4.resolve_left h37, spec_wide2 t⟩
            · exact this.2.2 x hx
      · rw [plan_lit c t acc h37]
        have hl := litT_len c t
        have := ih (t.drop ((litT c t).2 - 1)) (acc ++ (litT c t).1) (by rw [List.length_drop]; omega)
        rw [List.length_drop, List.length_append] at this
        simp only [List.length_cons]
        exact ⟨by omega, by omega, this.2.2⟩
theorem sizeTs_drop (l : List (List UInt8)) (k : Nat) : sizeTs (l.drop k) ≤ sizeTs l := by
  have e : sizeTs l = sizeTs (l.take k) + sizeTs (l.drop k) := by
    unfold sizeTs
    rw [← List.sum_append, ← List.map_append, List.take_append_drop]
  omega
/-- Is a format gone through again? -/
def ContF (f : List UInt8) (left : List (List UInt8)) : Prop := left ≠ [] ∧ (planL f []).cvs ≠ [] ∧ (planL f []).faulty = false
instance (f : List UInt8) (left : List (List UInt8)) : Decidable (ContF f left) := by unfold ContF; exact inferInstance
/-- What Format will tell, at a round's head. -/
def FEq (f : List UInt8) (args : List (List UInt8)) (acc : List UInt8) (left : List (List UInt8)) (st : Nat) : Prop :=
  formatL f args = if ContF f left then (acc ++ (formatL f left).1, max st (formatL f left).2) else (acc, st)
theorem feq_step (f : List UInt8) (args0 args : List (List UInt8)) (acc : List UInt8) (st : Nat) (h : formatL f args0 = (acc ++ (formatL f args).1, max st (formatL f args).2)) :
    FEq f args0 (acc ++ (onceL f args).text) (onceL f args).left (max st (onceL f args).st) := by
  unfold FEq
  rw [h]
  by_cases hc : ContF f (onceL f args).left
  · rw [if_pos hc, format_more f args hc.1 hc.2.1 hc.2.2]
    simp only [List.append_assoc, Nat.max_assoc]
  · rw [if_neg hc]
    have he : (onceL f args).left = [] ∨ (planL f []).cvs = [] ∨ (planL f []).faulty = true := by
      unfold ContF at hc
      by_cases h1 : (onceL f args).left = []
      · exact .inl h1
      · by_cases h2 : (planL f []).cvs = []
        · exact .inr (.inl h2)
        · right; right
          cases h3 : (planL f []).faulty with
          | true => rfl
          | false => exact absurd ⟨h1, h2, h3⟩ hc
    rw [format_end f args he]

theorem field_cvs (A : Option Addr) (n c : Nat) (x : ByteArray) (b : Bool) (w : World) : (Instr.field 39 (.agg #[.slice A n c, .string x, .bool b]) 0).run Tryd.prog w = .ok (.slice A n c) w := by kernel_rfl
set_option maxRecDepth 100000 in
set_option maxHeartbeats 1000000 in
theorem pconv_any (f : List UInt8) (w : World) (hs : f.length ≤ 1073741824) :
    Calls Tryd.prog 11 #[encS f] w fun e w' => e = .returned (.int .i64 (convL f)) ∧ Below w.heap.size w w' := by
  have cP := planned_any f w hs
  have HC := hid (plan_conv0 f)
  go_enter Tryd.func11, Tryd.ntmps11
  go_wp2_with fail
  refine cP.mono ?_
  rintro e w1 ⟨v, rfl, ⟨A, c, rfl, -⟩, hb⟩
  obtain ⟨n, hn⟩ : ∃ n, (planL f []).cvs.length = n := ⟨_, rfl⟩
  rw [hn] at HC ⊢
  generalize (planL f []).behind = be
  generalize (planL f []).faulty = fl
  clear hn
  have hfd := field_cvs A n c ⟨be.toArray⟩ fl w1
  go_wp2_with fail
  go_ret
  exact ⟨by rw [HC.out]; rfl, hb⟩

theorem TlAt.told {B b st : Nat} {acc : List UInt8} {args : List (List UInt8)} {w : World} (h : TlAt B b acc args st w) :
    Calls Tryd.prog 16 #[.pointer (some ⟨b, 0, none⟩)] w fun e w' => e = .returned (encS acc) ∧ w'.cell? ⟨b, 3, none⟩ = some (.int .i64 st) ∧ Bears B b w w' := by
  obtain ⟨p, v, A, c, h1, h2, h3, h4⟩ := h
  refine (btold_any 45 B b 0 _ acc w h1).mono ?_
  rintro e w' ⟨rfl, hb, ho⟩
  exact ⟨rfl, Lib.cell_of_heap (hb.trans h1.2.2.1) 3, ho⟩
theorem TlAt.slice {B b st : Nat} {acc : List UInt8} {args : List (List UInt8)} {w : World} (h : TlAt B b acc args st w) : ∃ A c, w.cell? ⟨b, 2, none⟩ = some (.slice A args.length c) := by
  obtain ⟨p, v, A, c, h1, h2, h3, h4⟩ := h
  exact ⟨A, c, Lib.cell_of_heap h1.2.2.1 2⟩
theorem ne_tl_cv : 45 ≠ 62 := by decide

set_option maxRecDepth 100000 in
set_option maxHeartbeats 4000000 in
theorem format_any (f : List UInt8) (A0 : Option Addr) (c0 : Nat) (args : List (List UInt8)) (w : World) (hA : TextsP w (fun _ => True) A0 args) (hc : args.length ≤ c0) (hz : f.length + sizeTs args ≤ 2200000) (hT : Tab w) :
    Calls Tryd.prog 8 #[encS f, .slice A0 args.length c0] w fun e w' => e = .returned (.tuple #[encS (formatL f args).1, .int .i64 (formatL f args).2]) ∧ Below w.heap.size w w' := by
  obtain ⟨N, hN⟩ : ∃ N, w.heap.size = N := ⟨_, rfl⟩
  have HN := hid hN
  have hTB : 5 < N := by rw [← hN]; exact World.block_lt_of_cell? w _ hT.1
  have hAB : TextsP w (fun g => g < N) A0 args := fun k hk => by
    obtain ⟨g, o, e, -, h⟩ := hA k hk
    exact ⟨g, o, e, by rw [← hN]; exact World.block_lt_of_cell? w _ h, h⟩
  have hsl := sizeTs_len args
  have cP := planned_any f w (by omega)
  rw [hN] at cP
  have hpf := plan_facts f.length f [] (Nat.le_refl _)
  have HOnce := hid (fun l => plan_once0 f l)
  have HCont : Hid (∀ l, ContF f l ↔ l ≠ [] ∧ (planL f []).cvs ≠ [] ∧ (planL f []).faulty = false) := hid fun _ => Iff.rfl
  obtain ⟨⟨cvs, be, fl⟩, hpl⟩ : ∃ p, planL f [] = p := ⟨_, rfl⟩
  unfold PlanAt at cP
  rw [hpl] at cP hpf HOnce HCont
  simp only [List.length_nil, Nat.zero_add] at cP hpf HOnce HCont
  obtain ⟨hp1, hp2, hok⟩ := hpf
  have HW := hid (And.intro hAB hT)
  clear hA hAB hT hpl
  go_enter Tryd.func8, Tryd.ntmps8
  go_wp2_with fail
  refine cP.mono ?_
  rintro e w1 ⟨v, rfl, ⟨A, c, rfl, hrow⟩, hb1⟩
  go_wp2_with fail
  obtain ⟨P, hP⟩ : ∃ P, w1.heap.size = P := ⟨_, rfl⟩
  obtain ⟨W2, hW2⟩ : ∃ W2, w1.alloc (.cells #[.slice A cvs.length c, encS be, .bool fl] 39) = W2 := ⟨_, rfl⟩
  obtain ⟨W3, hW3⟩ : ∃ W3, W2.alloc (.cells #[.pointer none, .slice none 0 0, .slice A0 args.length c0, .int .i64 0] 45) = W3 := ⟨_, rfl⟩
  have hsw : w.heap.size ≤ w1.heap.size := hb1.size
  have hs2 : W2.heap.size = P + 1 := by rw [← hW2, ← hP]; simp
  have hb2 : Below w1.heap.size w1 W2 := by rw [← hW2]; exact (Below.refl _ _).alloc (Nat.le_refl _) _
  have hb3 : Below W2.heap.size W2 W3 := by rw [← hW3]; exact (Below.refl _ _).alloc (Nat.le_refl _) _
  have hp2' : W2.heap[P]? = some (.cells #[.slice A cvs.length c, encS be, .bool fl] 39 (0, 0)) := by rw [← hW2, ← hP]; exact heap_alloc_new _ _
  have hp3 := heap_below' hp2' hb3
  have ht3 : W3.heap[P + 1]? = some (.cells #[.pointer none, .slice none 0 0, .slice A0 args.length c0, .int .i64 0] 45 (0, 0)) := by rw [← hW3, ← hs2]; exact heap_alloc_new _ _
  have hB3 : Below N w W3 := hb1.trans ((hb2.mono (by omega)).trans (hb3.mono (by omega)))
  have hs3 : N ≤ W3.heap.size := by have := hB3.size; omega
  have hR3 := own_below (own_below hrow hb2) hb3
  have hRb := ownBlock_neE hR3 ht3 ne_tl_cv
  rw [show (w1.alloc (.cells #[.slice A cvs.length c, .string { data := be.toArray }, .bool fl] 39)) = W2 from hW2, hW3, hP]
  have hTl : TlAt N (P + 1) [] args 0 W3 := ⟨.pointer none, .slice none 0 0, A0, c0, bld_new 45 W3 N (P + 1) 0 _ ne_tl_u8 (by omega) ht3 rfl rfl, hc, HW.out.1.low hB3, hs3⟩
  have hT3 := HW.out.2.low hTB hB3
  have hlen := tell_len cvs args (fun x hx => (hok x hx).2)
  have hM : args.length * (f.length + 1100) ≤ 4842420000000 := Nat.le_trans (Nat.mul_le_mul (show args.length ≤ 2200000 by omega) (show f.length + 1100 ≤ 2201100 by omega)) (by decide)
  have hargs : ∀ a ∈ args, a.length ≤ 140737488351232 := fun a ha => by have := sizeTs_mem args a ha; omega
  have cT := tell_any N (P + 1) 0 [] be args cvs fl A c N W3 hTl (by omega) hT3 hTB hR3 hRb hok (by omega) (by omega) hargs (by simp only [List.length_nil]; omega)
  have hleft := tell_left cvs args
  have HF0 : Hid (FEq f args ([] ++ (tellC cvs args).text ++ be) (tellC cvs args).left (max 0 (max (tellC cvs args).st (if fl then 1 else 0)))) := hid (by
    have := feq_step f args args [] 0 (by simp)
    rw [HOnce.out] at this
    simpa using this)
  have HB3 := hid hB3
  have HP3 := hid hp3
  have HR3 := hid hR3
  have HRb := hid hRb
  have HT3 := hid hT3
  have hbN : N ≤ P + 1 := by omega
  have hsN := hs3
  clear hW3 hW2 hb2 hb3 hp2' hp3 ht3 hB3 hR3 hRb hTl hT3 hs2 hrow hb1 hs3 hP cP
  go_wp2_with fail
  refine cT.mono ?_
  rintro e w4 ⟨rfl, h4, hb4⟩
  have H4 := hid h4
  have HB4 := hid hb4
  have HP4 := hid (hb4.heap HP3.out (by omega) ne_plan_u8)
  clear h4 hb4 cT
  go_wp2_with fail
  go_loopg [] (tellC cvs args).left.length (fun n wr => ∃ (acc : List UInt8) (left : List (List UInt8)) (st : Nat), left.length = n ∧ st ≤ 1 ∧ left.length ≤ 2200000 ∧ Hid (TlAt N (P + 1) acc left st wr) ∧ wr.heap[P]? = some (.cells #[.slice A cvs.length c, encS be, .bool fl] 39 (0, 0)) ∧ Hid (Bears N (P + 1) W3 wr) ∧ Hid (FEq f args acc left st) ∧
      Hid (∀ a ∈ left, a.length ≤ 140737488351232) ∧ Hid ((ContF f left → acc.length + left.length * (f.length + 1100) + sizeTs left ≤ args.length * (f.length + 1100) + sizeTs args)))
  case atStart =>
    refine ⟨_, _, _, rfl, by have := tell_st cvs args; split <;> omega, by rw [hleft, List.length_drop]; omega, hid H4.out, HP4.out, hid HB4.out, HF0, hid (fun a ha => hargs a (by rw [hleft] at ha; exact List.mem_of_mem_drop ha)), hid (fun hcc => ?_)⟩
    have hcc := (HCont.out _).1 hcc
    have hn0 : 1 ≤ cvs.length := List.length_pos_iff.2 hcc.2.1
    have hl0 : 1 ≤ (tellC cvs args).left.length := List.length_pos_iff.2 hcc.1
    exact size_step _ _ _ _ _ _ _ hn0 hl0 (by rw [hleft, List.length_drop]) (by simp only [List.length_append, List.length_nil]; omega)
  case round =>
    obtain ⟨acc, left, st, hln, hst, hll, HT, hp, HWr, HE, HQ, HS⟩ := hrel
    obtain ⟨A', c', x2⟩ := HT.out.slice
    have p0 : wr.cell? ⟨P, 0, none⟩ = some (.slice A cvs.length c) := Lib.cell_of_heap hp 0
    have p1 : wr.cell? ⟨P, 1, none⟩ = some (encS be) := Lib.cell_of_heap hp 1
    have p2 : wr.cell? ⟨P, 2, none⟩ = some (.bool fl) := Lib.cell_of_heap hp 2
    have HPr := hid hp
    clear hp HF0 hlen
    by_cases hl0 : left = []
    · have hnc : ¬ ContF f left := fun h => ((HCont.out _).1 h).1 hl0
      have g1 : ¬ (0 : Int) < (left.length : Int) := by rw [hl0]; simp
      clear hl0
      have HFE : Hid (formatL f args = (acc, st)) := hid (by have := HE.out; unfold FEq at this; rw [if_neg hnc] at this; exact this)
      have cS := (HT.out.drew).told
      have x3 : wr.drew.cell? ⟨P + 1, 3, none⟩ = some (.int .i64 st) := (HT.out).st3.1
      clear HE hnc HS HQ
      go_wp2_with fail
      go_region_law (go_simp; go_at_call 16; refine cS.mono ?_; rintro e w6 ⟨rfl, x36, hb6⟩)
      all_goals
        have hFB := hid (HB3.out.trans ((HWr.out.trans (Bears.of_drew hb6)).below hbN hsN))
        clear hb6 cS
        go_wp2_with fail
        go_ret2
        rw [HFE.out]
        exact ⟨rfl, by rw [HN.out]; exact hFB.out⟩
    · have g1 : (0 : Int) < (left.length : Int) := by have := List.length_pos_iff.2 hl0; omega
      by_cases hc0 : cvs = []
      · have hnc : ¬ ContF f left := fun h => ((HCont.out _).1 h).2.1 hc0
        have g2 : ¬ (0 : Int) < (cvs.length : Int) := by rw [hc0]; simp
        clear hc0 hl0
        have HFE : Hid (formatL f args = (acc, st)) := hid (by have := HE.out; unfold FEq at this; rw [if_neg hnc] at this; exact this)
        have cS := (HT.out.drew).told
        have x3 : wr.drew.cell? ⟨P + 1, 3, none⟩ = some (.int .i64 st) := (HT.out).st3.1
        clear HE hnc HS HQ
        go_wp2_with fail
        go_region_law (go_simp; go_at_call 16; refine cS.mono ?_; rintro e w6 ⟨rfl, x36, hb6⟩)
        all_goals
          have hFB := hid (HB3.out.trans ((HWr.out.trans (Bears.of_drew hb6)).below hbN hsN))
          clear hb6 cS
          go_wp2_with fail
          go_ret2
          rw [HFE.out]
          exact ⟨rfl, by rw [HN.out]; exact hFB.out⟩
      · have g2 : (0 : Int) < (cvs.length : Int) := by have := List.length_pos_iff.2 hc0; omega
        cases fl with
        | true =>
          have hnc : ¬ ContF f left := fun h => by have := ((HCont.out _).1 h).2.2; cases this
          clear hc0 hl0
          have HFE : Hid (formatL f args = (acc, st)) := hid (by have := HE.out; unfold FEq at this; rw [if_neg hnc] at this; exact this)
          have cS := (HT.out.drew).told
          have x3 : wr.drew.cell? ⟨P + 1, 3, none⟩ = some (.int .i64 st) := (HT.out).st3.1
          clear HE hnc HS HQ
          go_wp2_with fail
          go_region_law (go_simp; go_at_call 16; refine cS.mono ?_; rintro e w6 ⟨rfl, x36, hb6⟩)
          all_goals
            have hFB := hid (HB3.out.trans ((HWr.out.trans (Bears.of_drew hb6)).below hbN hsN))
            clear hb6 cS
            go_wp2_with fail
            go_ret2
            rw [HFE.out]
            exact ⟨rfl, by rw [HN.out]; exact hFB.out⟩
        | false =>
          have hcf : ContF f left := (HCont.out _).2 ⟨hl0, hc0, rfl⟩
          have hsz := HS.out hcf
          have hlen := tell_len cvs left (fun x hx => (hok x hx).2)
          have hleft' := tell_left cvs left
          have hR := HWr.out.row HR3.out ne_cv_u8 HRb.out
          have hTr : Tab wr := HT3.out.low hTB (HWr.out.below hbN hsN)
          have cT := tell_any N (P + 1) st acc be left cvs false A c N wr HT.out hst hTr hTB hR HRb.out hok (by omega) (by omega) HQ.out (by omega)
          have hF : formatL f args = (acc ++ (formatL f left).1, max st (formatL f left).2) := by have := HE.out; unfold FEq at this; rw [if_pos hcf] at this; exact this
          have HF2 : Hid (FEq f args (acc ++ (tellC cvs left).text ++ be) (tellC cvs left).left (max st (max (tellC cvs left).st (if (false : Bool) then 1 else 0)))) := hid (by
            have := feq_step f args left acc st hF
            rw [HOnce.out] at this
            simpa using this)
          have hlt : (tellC cvs left).left.length < left.length := by
            rw [hleft', List.length_drop]
            have := List.length_pos_iff.2 hl0
            have := List.length_pos_iff.2 hc0
            omega
          have HZ : Hid (ContF f (tellC cvs left).left → (acc ++ (tellC cvs left).text ++ be).length + (tellC cvs left).left.length * (f.length + 1100) + sizeTs (tellC cvs left).left ≤ args.length * (f.length + 1100) + sizeTs args) := hid (fun hcc => by
            have hl1 : 1 ≤ (tellC cvs left).left.length := List.length_pos_iff.2 ((HCont.out _).1 hcc).1
            have := size_step ((tellC cvs left).text.length + be.length) left.length (tellC cvs left).left.length (sizeTs left) (sizeTs (tellC cvs left).left) f.length cvs.length (List.length_pos_iff.2 hc0) hl1 (by rw [hleft', List.length_drop]) (by omega)
            simp only [List.length_append]
            omega)
          have hst2 := tell_st cvs left
          have HQ2 := hid (show ∀ a ∈ (tellC cvs left).left, a.length ≤ 140737488351232 from fun a ha => HQ.out a (by rw [hleft'] at ha; exact List.mem_of_mem_drop ha))
          clear hF hcf hsz hlen hleft' hR hTr HS HE hl0 hc0
          go_wp2_with fail
          refine cT.mono ?_
          rintro e w5 ⟨rfl, h5, hb5⟩
          have H5 := hid h5
          have HW5 := hid (HWr.out.trans hb5)
          have HP5 := hid (hb5.heap HPr.out (by omega) ne_plan_u8)
          clear h5 hb5 cT
          go_wp2_with fail
          go_roundg (tellC cvs left).left.length
          case rel => exact ⟨_, _, _, rfl, by rw [if_neg (by simp)]; omega, by omega, hid H5.out, HP5.out, hid HW5.out, HF2, HQ2, HZ⟩
          case measure => omega
end Go.Proofs.YtckmgcdiclkoeaaDoor
