/- The program's plan of a format: planned. Conditions: sizes. -/
import Derived.Test.YtckmgcdiclkoeaaDoorPpC
namespace Go.Proofs.YtckmgcdiclkoeaaDoor
open Go.RowKit
open Go.Lib (hid)

def Pl.pre (cs : List Cv) (p : Pl) : Pl := ⟨cs ++ p.cvs, p.behind, p.faulty⟩
/-- What a planner at a place of its format will have planned. -/
def PlEq (f : List UInt8) (k : Nat) (acc : List UInt8) (cvs : List Cv) (fl : Bool) : Prop := planL f [] = if fl then ⟨cvs, acc, true⟩ else (planL (f.drop k) acc).pre cvs
theorem plan_lit (c : UInt8) (t acc : List UInt8) (h : c ≠ 37) : planL (c :: t) acc = planL (t.drop ((litT c t).2 - 1)) (acc ++ (litT c t).1) := by
  rw [planL_cons]
  unfold litT
  split
  · rfl
  · simp
theorem PlEq.lit {f acc t : List UInt8} {c : UInt8} {k : Nat} {cvs : List Cv} (h : PlEq f k acc cvs false) (hd : f.drop k = c :: t) (hc : c ≠ 37) : PlEq f (k + (litT c t).2) (acc ++ (litT c t).1) cvs false := by
  unfold PlEq at h ⊢
  rw [h, hd, if_neg (by simp), if_neg (by simp), plan_lit c t acc hc]
  have h1 := (litT_len c t).1
  have ht : t = f.drop (k + 1) := by rw [← List.tail_drop, hd]; rfl
  have e1 : t.drop ((litT c t).2 - 1) = f.drop (k + (litT c t).2) := by
    conv => lhs; arg 2; rw [ht]
    rw [List.drop_drop, show k + 1 + ((litT c t).2 - 1) = k + (litT c t).2 by omega]
  rw [e1]
/-- What percent leaves, planned. -/
theorem PcPost.eq {B b k : Nat} {f t acc : List UInt8} {cvs : List Cv} {w' : World} (h : PcPost B b f (k + 1) t acc cvs w') (hd : f.drop k = 37 :: t) (hk : k < f.length) (ha : acc.length ≤ k) (hc : cvs.length ≤ k) (he : PlEq f k acc cvs false) :
    ∃ k' acc' cvs' fl', k' ≤ f.length ∧ (fl' = false → k < k') ∧ acc'.length ≤ f.length ∧ (fl' = false → acc'.length ≤ k') ∧ cvs'.length ≤ f.length ∧ (fl' = false → cvs'.length ≤ k') ∧ PlAt B b f k' acc' cvs' fl' w' ∧ PlEq f k' acc' cvs' fl' := by
  have ht : t = f.drop (k + 1) := by rw [← List.tail_drop, hd]; rfl
  have htl : t.length + k + 1 = f.length := by
    have := congrArg List.length hd
    rw [List.length_drop, List.length_cons] at this
    omega
  have hpl : planL (37 :: t) acc = if (specL t).letter = 0 then ⟨[], acc, true⟩
      else if (specL t).letter = 37 then planL (t.drop ((specL t).size - 1)) (acc ++ [37])
      else (planL (t.drop ((specL t).size - 1)) []).more ⟨specL t, acc⟩ := by
    rw [planL_cons, if_neg (show ¬ ((37 : UInt8) = 92 ∧ 0 < (oneL t).2) from fun e => absurd e.1 (by decide)), if_neg (show ¬ (37 : UInt8) ≠ 37 from fun e => e rfl)]
  have hdr : ∀ j, 1 ≤ j → t.drop (j - 1) = f.drop (k + j) := fun j hj => by
    rw [ht, List.drop_drop, show k + 1 + (j - 1) = k + j by omega]
  have hsz := spec_size t
  unfold PcPost at h
  unfold PlEq at he
  rw [hd, if_neg (by simp), hpl] at he
  by_cases h0 : (specL t).letter = 0
  · rw [if_pos h0] at h he
    obtain ⟨k', hk', h'⟩ := h
    exact ⟨k', acc, cvs, true, hk', by simp, by omega, by simp, by omega, by simp, h', by unfold PlEq; rw [he, if_pos rfl]; simp [Pl.pre]⟩
  · rw [if_neg h0] at h he
    rcases hsz with hsz | ⟨z1, z2, z3, -⟩
    · exact absurd hsz h0
    have hkk : k + 1 + (specL t).size - 1 = k + (specL t).size := by omega
    rw [hkk] at h
    by_cases h37 : (specL t).letter = 37
    · rw [if_pos h37] at h he
      refine ⟨k + (specL t).size, acc ++ [37], cvs, false, by omega, by omega, by simp; omega, by simp; omega, by omega, by omega, h, ?_⟩
      unfold PlEq
      rw [he, if_neg (by simp), hdr _ (by omega)]
    · rw [if_neg h37] at h he
      refine ⟨k + (specL t).size, [], cvs ++ [⟨specL t, acc⟩], false, by omega, by omega, by simp, by simp, by simp; omega, by simp; omega, h, ?_⟩
      unfold PlEq
      rw [he, if_neg (by simp), hdr _ (by omega)]
      simp [Pl.pre, Pl.more]
theorem plan_size : (Tryd.prog.info? 39).map (·.size) = some 3 := by kernel_rfl
theorem ret_plan {fn : Func} {p : Tmp} (h : fn.results = #[.cell p 39]) {R : Ending → World → Prop} {a : Act} {w : World} {g : Nat} {x y z : Value} (hp : a.tmps.getD p undef = .pointer (some ⟨g, 0, none⟩))
    (hh : w.heap[g]? = some (.cells #[x, y, z] 39 (0, 0))) (hd : a.defers = []) (hR : R (.returned (.agg #[x, y, z])) w) : bodyPost Tryd.prog fn R .ret a w :=
  bodyPost_ret (results_cell_row h _ _ g 39 #[x, y, z] (0, 0) _ hp hh Tryd.underlying39 rfl plan_size) hd hR

/-- The end: what was planned, laid into the result. -/
theorem plan_end {N k : Nat} {f acc : List UInt8} {cvs : List Cv} {fl : Bool} {p v cv : Value} {w w3 : World} (hbk : w3.heap[N + 1]? = some (.cells (plC f k p v cv fl) 56 (0, 0))) (hrow : w3.ownsRow (N + 1) 62 5 cv cvs.length (cvsV cvs))
    (hn : w3.heap[N]? = some (.cells #[.slice none 0 0, encS [], .bool false] 39 (0, 0))) (hB : Below N w w3) :
    ((((w3.setCell ⟨N + 1, 5, none⟩ (encS acc)).setCell ⟨N, 0, none⟩ cv).setCell ⟨N, 1, none⟩ (encS acc)).setCell ⟨N, 2, none⟩ (.bool fl)).heap[N]? = some (.cells #[cv, encS acc, .bool fl] 39 (0, 0)) ∧
    ((((w3.setCell ⟨N + 1, 5, none⟩ (encS acc)).setCell ⟨N, 0, none⟩ cv).setCell ⟨N, 1, none⟩ (encS acc)).setCell ⟨N, 2, none⟩ (.bool fl)).ownsRow N 62 5 cv cvs.length (cvsV cvs) ∧
    Below N w ((((w3.setCell ⟨N + 1, 5, none⟩ (encS acc)).setCell ⟨N, 0, none⟩ cv).setCell ⟨N, 1, none⟩ (encS acc)).setCell ⟨N, 2, none⟩ (.bool fl)) := by
  have hne1 := ownBlock_neE hrow hbk ne_pl_cv
  have hne2 := ownBlock_neE hrow hn (show 39 ≠ 62 by decide)
  have r0 : w3.ownsRow N 62 5 cv cvs.length (cvsV cvs) := by
    refine ⟨hrow.1, ?_⟩
    rcases hrow.2 with h | ⟨g, cap, cur, e1, e2, e3⟩
    · exact .inl h
    · exact .inr ⟨g, cap, cur, e1, by omega, e3⟩
  have h1 : (w3.setCell ⟨N + 1, 5, none⟩ (encS acc)).heap[N]? = some (.cells #[.slice none 0 0, encS [], .bool false] 39 (0, 0)) := (Below.heap_setCell _ _ _ _ (by simp)).trans hn
  have r1 := ownsRow_setCell_other (a := ⟨N + 1, 5, none⟩) r0 hne1 (encS acc)
  have b1 := hB.setCell (p := ⟨N + 1, 5, none⟩) (Nat.le_succ N) (encS acc)
  generalize w3.setCell ⟨N + 1, 5, none⟩ (encS acc) = V1 at *
  have h2 := heap_setCell_same _ N 0 _ _ cv h1
  have r2 := ownsRow_setCell_other (a := ⟨N, 0, none⟩) r1 hne2 cv
  have b2 := b1.setCell (p := ⟨N, 0, none⟩) (Nat.le_refl N) cv
  generalize V1.setCell ⟨N, 0, none⟩ cv = V2 at *
  have h3 := heap_setCell_same _ N 1 _ _ (encS acc) h2
  have r3 := ownsRow_setCell_other (a := ⟨N, 1, none⟩) r2 hne2 (encS acc)
  have b3 := b2.setCell (p := ⟨N, 1, none⟩) (Nat.le_refl N) (encS acc)
  generalize V2.setCell ⟨N, 1, none⟩ (encS acc) = V3 at *
  have h4 := heap_setCell_same _ N 2 _ _ (.bool fl) h3
  have r4 := ownsRow_setCell_other (a := ⟨N, 2, none⟩) r3 hne2 (.bool fl)
  have b4 := b3.setCell (p := ⟨N, 2, none⟩) (Nat.le_refl N) (.bool fl)
  refine ⟨?_, r4, b4⟩
  rw [h4]
  simp

/-- What planned tells. -/
def PlanAt (w' : World) (N : Nat) (f : List UInt8) (v : Value) : Prop := ∃ A c, v = .agg #[.slice A (planL f []).cvs.length c, encS (planL f []).behind, .bool (planL f []).faulty] ∧ w'.ownsRow N 62 5 (.slice A (planL f []).cvs.length c) (planL f []).cvs.length (cvsV (planL f []).cvs)
theorem plan_post {N k : Nat} {f acc : List UInt8} {cvs : List Cv} {fl : Bool} {cv : Value} {W : World} (he : PlEq f k acc cvs fl) (hk : fl = false → k = f.length) (hr : W.ownsRow N 62 5 cv cvs.length (cvsV cvs)) : PlanAt W N f (.agg #[cv, encS acc, .bool fl]) := by
  have e : planL f [] = ⟨cvs, acc, fl⟩ := by
    unfold PlEq at he
    cases fl with
    | true => rw [he, if_pos rfl]
    | false => rw [he, if_neg (by simp), hk rfl, List.drop_length, planL_nil]; simp [Pl.pre]
  unfold PlanAt
  rw [e]
  rcases hr.2 with ⟨rfl, h0⟩ | ⟨g, cap, cur, rfl, h⟩
  · have : cvs = [] := List.eq_nil_of_length_eq_zero h0
    subst this
    exact ⟨none, 0, rfl, hr⟩
  · exact ⟨_, cap, rfl, hr⟩

set_option maxRecDepth 100000 in
set_option maxHeartbeats 2000000 in
theorem planned_big (f : List UInt8) (w : World) (hs : f.length ≤ 140737488351232) (hm : f.length ≤ 1073741824 ∨ ∀ x ∈ f, x ≠ 37) :
    Calls Tryd.prog 14 #[encS f] w fun e w' => ∃ v, e = .returned v ∧ PlanAt w' w.heap.size f v ∧ Below w.heap.size w w' := by
  obtain ⟨N, hN⟩ : ∃ N, w.heap.size = N := ⟨_, rfl⟩
  have HN := hid hN
  have HM := hid hm
  clear hm
  obtain ⟨W1, hW1⟩ : ∃ W1, w.alloc (.cells #[.slice none 0 0, encS [], .bool false] 39) = W1 := ⟨_, rfl⟩
  have hs1 : W1.heap.size = N + 1 := by rw [← hW1, ← hN]; simp
  obtain ⟨W2, hW2⟩ : ∃ W2, W1.alloc (.cells #[encS f, .int .i64 0, .pointer none, .slice none 0 0, .slice none 0 0, encS [], .bool false] 56) = W2 := ⟨_, rfl⟩
  have hs2 : W2.heap.size = N + 2 := by rw [← hW2]; simp; omega
  have hr1 : W1.heap[N]? = some (.cells #[.slice none 0 0, encS [], .bool false] 39 (0, 0)) := by rw [← hW1, ← hN]; exact heap_alloc_new _ _
  have hr2 : W2.heap[N]? = some (.cells #[.slice none 0 0, encS [], .bool false] 39 (0, 0)) := by rw [← hW2]; exact (Below.heap_alloc _ _ _ (by omega)).trans hr1
  have ho2 : W2.heap[N + 1]? = some (.cells #[encS f, .int .i64 0, .pointer none, .slice none 0 0, .slice none 0 0, encS [], .bool false] 56 (0, 0)) := by rw [← hW2, ← hs1]; exact heap_alloc_new _ _
  have hB2 : Below N w W2 := by
    rw [← hW2, ← hW1]
    exact ((Below.refl _ _).alloc (by omega) _).alloc (by simp; omega) _
  have hP2 : PlAt (N + 1) (N + 1) f 0 [] [] false W2 := ⟨.pointer none, .slice none 0 0, .slice none 0 0, bld_new 56 W2 (N + 1) (N + 1) 2 _ ne_pl_u8 (Nat.le_refl _) ho2 rfl rfl, World.ownsRow_nil _ _ _ _, by omega⟩
  have HI := hid (And.intro hP2 (And.intro hr2 hB2))
  clear hr1 hr2 ho2 hB2 hs1 hs2 hP2
  subst hW2
  subst hW1
  go_enter Tryd.func14, Tryd.ntmps14
  go_wp2_with fail
  go_loopg [] (f.length + 1) (fun n wr => ∃ (k : Nat) (acc : List UInt8) (cvs : List Cv) (fl : Bool), k ≤ f.length ∧ (fl = false → k + n = f.length + 1) ∧ acc.length ≤ f.length ∧ (fl = false → acc.length ≤ k) ∧ cvs.length ≤ f.length ∧ (fl = false → cvs.length ≤ k) ∧ PlAt (N + 1) (N + 1) f k acc cvs fl wr ∧ Hid (PlEq f k acc cvs fl) ∧ wr.heap[N]? = some (.cells #[.slice none 0 0, encS [], .bool false] 39 (0, 0)) ∧ Hid (Below N w wr))
  case atStart => exact ⟨0, [], [], false, by omega, by omega, by simp, by simp, by simp, by simp, HI.out.1, hid (by unfold PlEq; rw [if_neg (by simp)]; simp [Pl.pre]), HI.out.2.1, hid HI.out.2.2⟩
  case round =>
    obtain ⟨k, acc, cvs, fl, hk, hkn, hal, hak, hcl, hck, hP, HE, hRN, HW⟩ := hrel
    have cM := hP.more
    have x6 := fun n => (hP.drewN n).c6
    have HPL := hid hP
    have HRN := hid hRN
    clear HI hP hRN
    -- the end, wherever the loop is left
    have hend : ∀ W : World, Below N w W → W.heap[N]? = some (.cells #[.slice none 0 0, encS [], .bool false] 39 (0, 0)) → PlAt (N + 1) (N + 1) f k acc cvs fl W → (fl = false → k = f.length) → ∃ p v A cc, 
        Calls Tryd.prog 16 #[.pointer (some ⟨N + 1, 2, none⟩)] W (fun e w' => e = .returned (encS acc) ∧ (w'.cell? ⟨N + 1, 4, none⟩ = some (.slice A cvs.length cc) ∧ w'.cell? ⟨N + 1, 5, none⟩ = some (encS []) ∧ w'.cell? ⟨N + 1, 6, none⟩ = some (.bool fl)) ∧ (w'.frozen? ⟨N + 1, 5, none⟩ = false ∧ w'.frozen? ⟨N, 0, none⟩ = false ∧ w'.frozen? ⟨N, 1, none⟩ = false ∧ w'.frozen? ⟨N, 2, none⟩ = false) ∧ (w'.cell? ⟨N, 0, none⟩ = some (.slice none 0 0) ∧ w'.cell? ⟨N, 1, none⟩ = some (encS []) ∧ w'.cell? ⟨N, 2, none⟩ = some (.bool false)) ∧
          Hid (w'.heap[N + 1]? = some (.cells (plC f k p v (.slice A cvs.length cc) fl) 56 (0, 0)) ∧ w'.ownsRow (N + 1) 62 5 (.slice A cvs.length cc) cvs.length (cvsV cvs) ∧ w'.heap[N]? = some (.cells #[.slice none 0 0, encS [], .bool false] 39 (0, 0)) ∧ Below N w w')) := fun W hBW hNW hPW _ => by
      obtain ⟨p, v, cv, h1, h2, h3⟩ := hPW
      obtain ⟨A, cc, rfl⟩ : ∃ A cc, cv = .slice A cvs.length cc := by
        rcases h2.2 with ⟨rfl, h0⟩ | ⟨g, cap, cur, rfl, -⟩
        · exact ⟨none, 0, by rw [h0]⟩
        · exact ⟨_, cap, rfl⟩
      refine ⟨p, v, A, cc, (btold_any 56 (N + 1) (N + 1) 2 _ acc W h1).mono ?_⟩
      rintro e w' ⟨rfl, hb, ho⟩
      have hb' := hb.trans h1.2.2.1
      have hn' := (ho.block N (lt_of_block hNW) (by omega) (.inl (by omega))).trans hNW
      exact ⟨rfl, ⟨Lib.cell_of_heap hb' 4, Lib.cell_of_heap hb' 5, Lib.cell_of_heap hb' 6⟩, ⟨Lib.frozen_of_heap hb' 5, Lib.frozen_of_heap hn' 0, Lib.frozen_of_heap hn' 1, Lib.frozen_of_heap hn' 2⟩, ⟨Lib.cell_of_heap hn' 0, Lib.cell_of_heap hn' 1, Lib.cell_of_heap hn' 2⟩, hid ⟨hb', ho.row h2 ne_cv_u8 (ownBlock_neE h2 h1.2.2.1 ne_pl_cv), hn', hBW.trans ((ho.below (Nat.le_refl _) h3).mono (by omega))⟩⟩
    by_cases hlt : k < f.length
    · rw [decide_eq_true hlt] at cM
      cases fl with
      | false =>
        have hd : f.drop k = f[k] :: f.drop (k + 1) := List.drop_eq_getElem_cons hlt
        obtain ⟨c, hc⟩ : ∃ c, f[k] = c := ⟨_, rfl⟩
        obtain ⟨t, ht⟩ : ∃ t, f.drop (k + 1) = t := ⟨_, rfl⟩
        rw [hc, ht] at hd
        have htl : t.length + k + 1 = f.length := by rw [← ht, List.length_drop]; omega
        have hR := fun n => (HPL.out.drewN n).run [37] 1 hk (by omega)
        rw [hd] at hR
        by_cases h37 : c = 37
        · subst h37
          have hs3 : f.length ≤ 1073741824 := HM.out.resolve_right fun h => h 37 (List.mem_of_mem_drop (show (37 : UInt8) ∈ f.drop k by rw [hd]; exact List.mem_cons_self ..)) rfl
          have hr : runL [37] 1 (37 :: t) = [37] := by
            rcases run_one [37] (37 :: t) with ⟨-, h2⟩ | ⟨c, r', h1, -, h3⟩
            · exact absurd (h2 37 t rfl) (by decide)
            · rw [h3, (List.cons.inj h1).1]
          rw [hr] at hR
          have hak' := hak rfl
          have hck' := hck rfl
          have hkn' := hkn rfl
          clear hr hend hc hak hck hkn
          go_wp2_with fail
          refine cM.mono ?_
          rintro e w1 ⟨rfl, m, rfl⟩
          have x6 := x6 m
          have hR := hR m
          go_wp2_with fail
          refine hR.mono ?_
          rintro e w2 ⟨rfl, h2, hb2⟩
          have hn2 := (hb2.block N (by omega)).trans (show (wr.drewN m).heap[N]? = _ from HRN.out)
          have cP := percent_any (N + 1) (N + 1) (k + 1) f t acc cvs w2 h2 ht (by omega) (by omega) (by omega) (by omega)
          have HB2 := hid (And.intro hn2 ((below_drewN HW.out m).trans (hb2.mono (by omega))))
          clear h2 hb2 hn2 hR
          go_wp2_with fail
          refine cP.mono ?_
          rintro e w3 ⟨rfl, h3, hb3⟩
          have HQ := hid (h3.eq hd hlt hak' hck' HE.out)
          have HB3 := hid (And.intro ((hb3.block N (by omega)).trans HB2.out.1) (HB2.out.2.trans (hb3.mono (by omega))))
          clear h3 hb3 cP HB2
          go_wp2_with fail
          obtain ⟨k', acc', cvs', fl', q1, q2, q3, q4, q5, q6, q7, q8⟩ := HQ.out
          go_roundg (if fl' then 0 else f.length + 1 - k')
          case rel => exact ⟨k', acc', cvs', fl', q1, fun e => by rw [e]; simp; omega, q3, q4, q5, q6, q7, hid q8, HB3.out.1, hid HB3.out.2⟩
          case measure =>
            cases fl' with
            | true => simp; omega
            | false => have := q2 rfl; simp; omega
        · have hr : runL [37] 1 (c :: t) = [] := by
            rcases run_one [37] (c :: t) with ⟨h1, -⟩ | ⟨c', r', h1, h2, -⟩
            · exact h1
            · have : c' = 37 := by
                have := Ans.all_u8 (p := fun c => inB [37] c = true → c = 37) (by decide +kernel) c'
                exact this h2
              exact absurd ((List.cons.inj h1).1.trans this) h37
          rw [hr] at hR
          have hak' := hak rfl
          have hck' := hck rfl
          have hkn' := hkn rfl
          have HQ := hid (HE.out.lit hd h37)
          have hll := litT_len c t
          obtain ⟨⟨u, j⟩, hu⟩ : ∃ u, litT c t = u := ⟨_, rfl⟩
          rw [hu] at HQ hll
          simp only at HQ hll
          have HU := hid hu
          clear hr hend hc hak hck hkn HE hu
          go_wp2_with fail
          refine cM.mono ?_
          rintro e w1 ⟨rfl, m, rfl⟩
          have x6 := x6 m
          have hR := hR m
          go_wp2_with fail
          refine hR.mono ?_
          rintro e w2 ⟨rfl, h2, hb2⟩
          have hn2 := (hb2.block N (by omega)).trans (show (wr.drewN m).heap[N]? = _ from HRN.out)
          have h2' : PlAt (N + 1) (N + 1) f k acc cvs false w2 := h2
          have cL := h2'.lit hd (by omega)
          rw [HU.out] at cL
          have HB2 := hid (And.intro hn2 ((below_drewN HW.out m).trans (hb2.mono (by omega))))
          clear h2 h2' hb2 hn2 hR
          go_wp2_with fail
          refine cL.mono ?_
          rintro e w3 ⟨rfl, h3, hb3⟩
          have cW := h3.str u (by omega)
          have HB3 := hid (And.intro ((hb3.block N (by omega)).trans HB2.out.1) (HB2.out.2.trans (hb3.mono (by omega))))
          clear h3 hb3 cL HB2
          go_wp2_with fail
          refine cW.mono ?_
          rintro e w4 ⟨rfl, h4, hb4⟩
          have H4 := hid h4
          have HB4 := hid (And.intro ((hb4.block N (by omega)).trans HB3.out.1) (HB3.out.2.trans (hb4.mono (by omega))))
          clear h4 hb4 cW HB3
          go_wp2_with fail
          go_roundg (f.length + 1 - (k + j))
          case rel => exact ⟨k + j, acc ++ u, cvs, false, by omega, by omega, by rw [List.length_append]; omega, fun _ => by rw [List.length_append]; omega, hcl, fun _ => by omega, H4.out, HQ, HB4.out.1, hid HB4.out.2⟩
          case measure => omega
      | true =>
        go_wp2_with fail
        refine cM.mono ?_
        rintro e w1 ⟨rfl, m, rfl⟩
        have x6 := x6 m
        obtain ⟨p, v, A, cc, cS⟩ := hend (wr.drewN m) (below_drewN HW.out m) HRN.out (HPL.out.drewN m) (by simp)
        go_wp2_with fail
        refine cS.mono ?_
        rintro e w3 ⟨rfl, ⟨a4, a5, a6⟩, ⟨b5, d0, d1, d2⟩, ⟨e0, e1, e2⟩, HF⟩
        have HZ := hid (plan_end (acc := acc) HF.out.1 HF.out.2.1 HF.out.2.2.1 HF.out.2.2.2)
        have HQ := hid (plan_post HE.out (by simp) HZ.out.2.1)
        clear cS
        go_wp2_with fail
        refine ret_plan rfl rfl HZ.out.1 rfl ?_
        exact ⟨_, rfl, by rw [HN.out]; exact HQ.out, by rw [HN.out]; exact HZ.out.2.2⟩
    · rw [decide_eq_false hlt] at cM
      have hke : fl = false → k = f.length := fun _ => by omega
      go_wp2_with fail
      refine cM.mono ?_
      rintro e w1 ⟨rfl, m, rfl⟩
      obtain ⟨p, v, A, cc, cS⟩ := hend (wr.drewN m) (below_drewN HW.out m) HRN.out (HPL.out.drewN m) hke
      go_wp2_with fail
      refine cS.mono ?_
      rintro e w3 ⟨rfl, ⟨a4, a5, a6⟩, ⟨b5, d0, d1, d2⟩, ⟨e0, e1, e2⟩, HF⟩
      have HZ := hid (plan_end (acc := acc) HF.out.1 HF.out.2.1 HF.out.2.2.1 HF.out.2.2.2)
      have HQ := hid (plan_post HE.out (by exact hke) HZ.out.2.1)
      clear cS
      go_wp2_with fail
      refine ret_plan rfl rfl HZ.out.1 rfl ?_
      exact ⟨_, rfl, by rw [HN.out]; exact HQ.out, by rw [HN.out]; exact HZ.out.2.2⟩
theorem planned_any (f : List UInt8) (w : World) (hs : f.length ≤ 1073741824) :
    Calls Tryd.prog 14 #[encS f] w fun e w' => ∃ v, e = .returned v ∧ PlanAt w' w.heap.size f v ∧ Below w.heap.size w w' := planned_big f w (by omega) (.inl hs)
end Go.Proofs.YtckmgcdiclkoeaaDoor
