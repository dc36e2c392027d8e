/- Contracts of glob.Prefix, Match. Conditions: a pattern of at most 2^21 octets, a text of at most 2^40. -/
import Derived.Test.YtcaenkffoilleaaGlobJ
namespace Go.Proofs.Ytcaenkffoilleaa
open Go.RowKit
open Go.Lib (hid)

theorem setSp_len : ∀ (n : Nat) (r : List Ch), r.length ≤ n → (setSp r).length ≤ r.length
  | _, [], _ => Nat.le_refl _
  | _, [_], _ => Nat.le_refl _
  | _, [_, _], _ => Nat.le_refl _
  | 0, _ :: _ :: _ :: _, h => by simp at h
  | n + 1, a :: b :: c :: r, h => by
    simp only [List.length_cons] at h
    unfold setSp
    split
    · have := setSp_len n r (by omega)
      simp only [List.length_cons]
      omega
    · have := setSp_len n (b :: c :: r) (by simp; omega)
      simp only [List.length_cons] at this ⊢
      omega
theorem setL_spans (p : List Ch) : (setL p).spans.length ≤ p.length := by
  cases p with
  | nil => exact Nat.le_refl _
  | cons a r =>
    show (setSp (if othersB a then r else a :: r)).length ≤ _
    split
    · have := setSp_len r.length r (Nat.le_refl _)
      simp only [List.length_cons]
      omega
    · exact setSp_len _ _ (Nat.le_refl _)
theorem singleL_spans (c : Ch) : (singleL c).spans.length ≤ 1 := by
  unfold singleL
  split
  · exact Nat.zero_le _
  · split <;> exact Nat.le_refl _
theorem partsL_spans : ∀ (n : Nat) (sets : Bool) (p : List Ch), p.length ≤ n → ∀ q ∈ partsL sets p, q.spans.length ≤ p.length + 1
  | _, _, [], _, q, hq => by cases hq
  | 0, _, _ :: _, h, _, _ => by simp at h
  | n + 1, sets, c :: r, h, q, hq => by
    simp only [List.length_cons] at h ⊢
    by_cases hs : (sets && quo c 91) = true
    · obtain ⟨rfl, hq1⟩ : sets = true ∧ quo c 91 = true := by simpa using hs
      by_cases hw : widthL (c :: r) = 0
      · rw [partsL_unset hq1 hw] at hq
        rcases List.mem_cons.1 hq with rfl | hq
        · have := singleL_spans c; omega
        · have := partsL_spans n false r (by omega) q hq; omega
      · have h3 := (widthL_le (c :: r)).2 hw
        rw [partsL_set hq1 hw] at hq
        rcases List.mem_cons.1 hq with rfl | hq
        · have h4 := setL_spans (((c :: r).drop 1).take (widthL (c :: r) - 2))
          rw [List.length_take, List.length_drop, List.length_cons] at h4
          omega
        · have h5 := partsL_spans n true ((c :: r).drop (widthL (c :: r))) (by rw [List.length_drop, List.length_cons]; omega) q hq
          rw [List.length_drop, List.length_cons] at h5
          omega
    · rw [partsL_single (by simpa using hs)] at hq
      rcases List.mem_cons.1 hq with rfl | hq
      · have := singleL_spans c; omega
      · have := partsL_spans n sets r (by omega) q hq; omega
theorem runsL_mem (ps : List Pt) : ∀ r ∈ runsL ps, ∀ q ∈ r, q ∈ ps := by
  intro r hr q hq
  have h := runsG_snd (ps.map fun q => (undef, q))
  have e : (ps.map fun q => (undef, q)).map Prod.snd = ps := by simp [Function.comp_def]
  rw [e] at h
  rw [← h] at hr
  obtain ⟨gs, hgs, rfl⟩ := List.mem_map.1 hr
  obtain ⟨x, hx, rfl⟩ := List.mem_map.1 hq
  have := runsG_mem _ gs hgs x hx
  obtain ⟨q', hq', rfl⟩ := List.mem_map.1 this
  exact hq'
theorem runsOf_facts (l : List Ch) : (runsOf l).length ≤ l.length + 1 ∧ (∀ r ∈ runsOf l, r.length ≤ l.length) ∧ ∀ r ∈ runsOf l, ∀ q ∈ r, q.spans.length ≤ l.length + 1 := by
  have h1 := runsL_len (partsL true l)
  have h2 := partsL_len l.length true l (Nat.le_refl _)
  exact ⟨Nat.le_trans h1.1 (by omega), fun r hr => Nat.le_trans (h1.2 r hr) h2, fun r hr q hq => partsL_spans l.length true l (Nat.le_refl _) q (runsL_mem _ r hr q hq)⟩

theorem cellsG_at {W : World} : ∀ (gs : List Item), (∀ x ∈ gs, PtAt W x.1 x.2) → ∀ k (h : k < gs.length), ∃ sA sc, (cellsG gs)[k * 3]? = some (.bool gs[k].2.star) ∧ (cellsG gs)[k * 3 + 1]? = some (.bool gs[k].2.neg) ∧ (cellsG gs)[k * 3 + 2]? = some (.slice sA gs[k].2.spans.length sc) ∧ SpAt W (.slice sA gs[k].2.spans.length sc) gs[k].2.spans
  | x :: gs, hp, 0, _ => by
    obtain ⟨sv, e, hs⟩ := hp x (List.mem_cons_self ..)
    obtain ⟨A, cap, rfl, _⟩ := id hs
    exact ⟨A, cap, by simp [cellsG, e, Value.cells], by simp [cellsG, e, Value.cells], by simp [cellsG, e, Value.cells], hs⟩
  | x :: gs, hp, k + 1, h => by
    obtain ⟨sA, sc, h1, h2, h3, h4⟩ := cellsG_at gs (fun y hy => hp y (List.mem_cons_of_mem _ hy)) k (by simpa using h)
    obtain ⟨sv, e, _⟩ := hp x (List.mem_cons_self ..)
    have e3 : ∀ j, (cellsG (x :: gs))[(k + 1) * 3 + j]? = (cellsG gs)[k * 3 + j]? := fun j => by
      have : cellsG (x :: gs) = [.bool x.2.star, .bool x.2.neg, sv] ++ cellsG gs := by simp [cellsG, e, Value.cells]
      rw [this, List.getElem?_append_right (by simp; omega)]
      congr 1
      simp
      omega
    exact ⟨sA, sc, (e3 0).trans h1, (e3 1).trans h2, (e3 2).trans h3, h4⟩
theorem RunAt.of_own {W : World} {N : Nat} {rv : Value} {gs : List Item} (h : W.ownsRow N 48 3 rv gs.length (cellsG gs)) (hp : ∀ x ∈ gs, PtAt W x.1 x.2) : RunAt W rv (gs.map Prod.snd) := by
  rcases h.2 with ⟨hv, h0⟩ | ⟨g, cap, cur, hv, _⟩
  · exact ⟨none, 0, by rw [hv, List.length_map, h0], fun k hk => by rw [List.length_map, h0] at hk; omega⟩
  · subst hv
    refine ⟨_, cap, by rw [List.length_map], fun k hk => ?_⟩
    rw [List.length_map] at hk
    obtain ⟨sA, sc, h1, h2, h3, h4⟩ := cellsG_at gs hp k hk
    have hc : ∀ j u, (cellsG gs)[j]? = some u → W.cell? ⟨g, j, none⟩ = some u := fun j u hj => by
      have := h.cells (g := g) rfl j u hj
      simpa only [Addr.add_lit, Nat.zero_add] using this
    refine ⟨g, sA, sc, rfl, ?_, ?_, ?_, ?_⟩
    · rw [List.getElem_map]; exact hc _ _ h1
    · rw [List.getElem_map]; exact hc _ _ h2
    · simp only [List.getElem_map]; exact hc _ _ h3
    · simp only [List.getElem_map]; exact h4
theorem RowsOwn.at_ {N : Nat} {W : World} : ∀ {vs : List Value} {gss : List (List Item)}, RowsOwn N W vs gss → ∀ k (h : k < gss.length), ∃ rv, vs[k]? = some rv ∧ W.ownsRow N 48 3 rv gss[k].length (cellsG gss[k])
  | rv :: _, _ :: _, h, 0, _ => ⟨rv, rfl, h.1⟩
  | _ :: _, _ :: _, h, k + 1, hk => RowsOwn.at_ h.2 k (by simpa using hk)
  | [], [], _, _, hk => by simp at hk
  | [], _ :: _, h, _, _ => h.elim
  | _ :: _, [], h, _, _ => h.elim
theorem RunsAt.of_own {W : World} {N : Nat} {v : Value} {vs : List Value} {gss : List (List Item)} (hn : 0 < gss.length) (h : W.ownsRow N 44 1 v gss.length vs) (hr : RowsOwn N W vs gss) (hp : ∀ gs ∈ gss, ∀ x ∈ gs, PtAt W x.1 x.2) : RunsAt W v (sndG gss) := by
  obtain ⟨g, cap, rfl, _⟩ := h.form hn
  refine ⟨g, cap, by rw [sndG_len], fun k hk => ?_⟩
  rw [sndG_len] at hk
  obtain ⟨rv, h1, h2⟩ := hr.at_ k hk
  have hc := h.cells (g := g) rfl k rv h1
  simp only [Addr.add_lit, Nat.zero_add] at hc
  refine ⟨rv, hc, ?_⟩
  have := RunAt.of_own h2 (hp _ (List.getElem_mem hk))
  simpa [sndG] using this

theorem runsOf_shape (l : List Ch) : ∃ r0 rs, runsOf l = r0 :: rs := by
  obtain ⟨i, r, h⟩ := runsL_shape (partsL true l)
  unfold runsOf
  rw [h]
  cases i with
  | nil => exact ⟨_, _, rfl⟩
  | cons a b => exact ⟨_, _, rfl⟩

theorem runs_ready {W : World} {N : Nat} {v : Value} {vs : List Value} {gss : List (List Item)} {l : List Ch} {r0 : List Pt} {rs : List (List Pt)} (hrs : runsOf l = r0 :: rs) (h1 : W.ownsRow N 44 1 v gss.length vs) (h2 : RowsOwn N W vs gss) (h4 : ∀ gs ∈ gss, ∀ x ∈ gs, PtAt W x.1 x.2) (h5 : sndG gss = runsOf l) : RunsAt W v (runsOf l) := by
  rw [← h5]
  refine RunsAt.of_own ?_ h1 h2 h4
  rw [← sndG_len, h5, hrs]
  simp

theorem octetP (s : ByteArray) (b i : Nat) (w : World) (hi : i < s.size) (h : w.cell? ⟨b, 0, none⟩ = some (.string s)) :
    Calls Try.prog 21 (#[.int .i64 i] ++ #[.pointer (some ⟨b, 0, none⟩)]) w fun e w' => e = .returned (.int .u8 s[i].toNat) ∧ w = w' := by
  go_enter Try.func21, Try.ntmps21
  go_wp2
  go_ret
  exact ⟨rfl, rfl⟩

set_option maxHeartbeats 1000000 in
theorem prefix_free (A : Option Addr) (cap : Nat) (l : List Ch) (s : ByteArray) (lg : Bool) (w : World) (hl : l.length ≤ 2097152) (hcap : l.length ≤ cap) (hs : s.size ≤ 1099511627776) (h : CharsAt w A l) :
    Calls Try.prog 13 #[.slice A l.length cap, .string s, .bool lg] w fun e w' => e = .returned (.int .i64 (optI (reachL s.data.toList lg (runsOf l)))) ∧ Below w.heap.size w w' := by
  have hal : ∀ o, Below w.heap.size w (w.alloc o) := fun o => (Below.refl _ _).alloc (Nat.le_refl _) _
  have hf := runsOf_facts l
  obtain ⟨r0, rs, hrs⟩ := runsOf_shape l
  have cR := fun W (hB : Below w.heap.size w W) => runs_any A cap l W (by omega) hcap (h.below hB)
  have cG := fun W v (hv : RunsAt W v (runsOf l)) (hc : W.cell? ⟨w.heap.size, 0, none⟩ = some (.string s)) => by
    rw [hrs] at hv
    exact reach_any 21 #[.pointer (some ⟨w.heap.size, 0, none⟩)] (enters_of Try.func21 (by kernel_rfl) rfl) s.data.toList lg v r0 rs W (by rw [len_toList]; exact hs)
      (by rw [hrs] at hf; have := hf.1; simp at this; omega) (by rw [← hrs]; intro r hr; have := hf.2.1 r hr; omega) (by rw [← hrs]; intro r hr q hq; have := hf.2.2 r hr q hq; omega) hv
      (fun i hi W' hB' => octetP s w.heap.size i W' (by rw [← len_toList]; exact hi) (cell_below hB' hc))
  rw [← hrs] at cG
  rw [len_toList] at cG
  clear h hf
  go_enter Try.func13, Try.ntmps13
  go_wp2_with fail
  have k0 : (w.alloc (.cells #[.string s] 9)).cell? ⟨w.heap.size, 0, none⟩ = some (.string s) := cell_of_one (heap_alloc_new w _)
  have hB0 := hal (.cells #[.string s] 9)
  go_region_held3 (fun w' => w'.cell? ⟨w.heap.size, 0, none⟩ = some (.string s))
    (first | go_keep | exact k1 | exact cell_below hb2 k1)
    (first
      | (go_at_call 20; refine (cR _ hB0.drew).mono ?_; rintro e w1 ⟨v, vs, gss, rfl, hv1, hv2, -, hv4, hv5, hb1⟩; have k1 := cell_below hb1 k0)
      | (go_at_call 19; refine (cG _ _ (runs_ready hrs hv1 hv2 hv4 hv5) k1).mono ?_; rintro e w2 ⟨rfl, hb2⟩))
  all_goals
    go_wp2
    go_ret
    exact ⟨by rw [hrs]; rfl, hB0.drew.trans ((hb1.trans (hb2.mono hb1.size)).mono hB0.size)⟩

theorem optI_len (o : Option Nat) (n : Nat) : (o == some n) = (optI o == (n : Int)) := by
  cases o with
  | none =>
    show false = ((-1 : Int) == (n : Int))
    symm
    simp only [beq_eq_false_iff_ne]
    omega
  | some m =>
    show (some m == some n) = ((m : Int) == (n : Int))
    rw [Bool.eq_iff_iff]
    simp
    omega

set_option maxHeartbeats 1000000 in
theorem match_free (A : Option Addr) (cap : Nat) (l : List Ch) (s : ByteArray) (w : World) (hl : l.length ≤ 2097152) (hcap : l.length ≤ cap) (hs : s.size ≤ 1099511627776) (h : CharsAt w A l) :
    Calls Try.prog 8 #[.slice A l.length cap, .string s] w fun e w' => e = .returned (.bool (matchL (runsOf l) s.data.toList)) ∧ Below w.heap.size w w' := by
  have cP := prefix_free A cap l s true w hl hcap hs h
  have HM : Hid (matchL (runsOf l) s.data.toList = (optI (reachL s.data.toList true (runsOf l)) == (s.size : Int))) := hid (by unfold matchL; rw [len_toList]; exact optI_len _ _)
  generalize optI (reachL s.data.toList true (runsOf l)) = z at *
  go_enter Try.func8, Try.ntmps8
  go_wp2_with (go_at_call 13; refine cP.mono ?_; rintro e w1 ⟨rfl, hb1⟩)
  go_ret
  exact ⟨by rw [HM.out]; rfl, hb1⟩

theorem match_any (A : Option Addr) (cap : Nat) (l : List Ch) (s : ByteArray) (w : World) (hl : l.length ≤ 2097152) (hcap : l.length ≤ cap) (hs : s.size ≤ 1099511627776) (_hA : ∀ a, A = some a → a.block < w.heap.size) (h : CharsAt w A l) :
    Calls Try.prog 8 #[.slice A l.length cap, .string s] w fun e w' => e = .returned (.bool (matchL (runsOf l) s.data.toList)) ∧ Below w.heap.size w w' := match_free A cap l s w hl hcap hs h
end Go.Proofs.Ytcaenkffoilleaa
