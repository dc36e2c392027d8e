/- Contract of glob.Suffix. Conditions: a pattern of at most 2^21 octets, a text of at most 2^40. -/
import Derived.Test.YtcaenkffoilleaaGlobN
namespace Go.Proofs.Ytcaenkffoilleaa
open Go.RowKit Go.Shelf
open Go.Lib (hid)

theorem RowsOwn.slices {N : Nat} {W : World} {vs : List Value} {gss : List (List Item)} (h : RowsOwn N W vs gss) : ∀ (t : Nat) (u : Value), vs[t]? = some u → ∃ A n c, u = Value.slice A n c := fun t u hu => by
  obtain ⟨n, xs, ho⟩ := h.mem u (List.mem_of_getElem? hu)
  rcases ho.2 with ⟨hv, _⟩ | ⟨g, cap, cur, hv, _⟩
  · exact ⟨_, _, _, hv⟩
  · exact ⟨_, _, _, hv⟩
theorem RowsOwn.app {N : Nat} {W : World} : ∀ {vs us : List Value} {gss hss : List (List Item)}, RowsOwn N W vs gss → RowsOwn N W us hss → RowsOwn N W (vs ++ us) (gss ++ hss)
  | [], _, [], _, _, h => h
  | _ :: _, _, _ :: _, _, h, k => ⟨h.1, RowsOwn.app h.2 k⟩
  | [], _, _ :: _, _, h, _ => h.elim
  | _ :: _, _, [], _, h, _ => h.elim
theorem RowsOwn.rev {N : Nat} {W : World} : ∀ {vs : List Value} {gss : List (List Item)}, RowsOwn N W vs gss → RowsOwn N W vs.reverse gss.reverse
  | [], [], _ => trivial
  | v :: vs, g :: gss, h => by
    rw [List.reverse_cons, List.reverse_cons]
    exact RowsOwn.app (RowsOwn.rev h.2) ⟨h.1, trivial⟩
  | [], _ :: _, h => h.elim
  | _ :: _, [], h => h.elim
theorem Apart.rev {vs : List Value} (h : Apart vs) : Apart vs.reverse := by
  unfold Apart
  rw [List.pairwise_reverse]
  refine List.Pairwise.imp (fun {a b} hab => ?_) h
  rcases hab with h | h
  · rcases hb : b.ownBlock with _ | j
    · exact .inl rfl
    · exact .inr (by rw [h]; exact fun e => by cases e)
  · exact .inr (Ne.symm h)
theorem RowsOwn.upd {N : Nat} {W W' : World} {rv : Value} {gs' : List Item} (hg : W.grownBy W' rv.ownBlock) (hn : W'.ownsRow N 48 3 rv gs'.length (cellsG gs')) :
    ∀ {vs : List Value} {gss : List (List Item)} (k : Nat), RowsOwn N W vs gss → Apart vs → vs[k]? = some rv → RowsOwn N W' vs (gss.set k gs')
  | v :: vs, g :: gss, 0, h, ha, hk => by
    simp at hk
    subst hk
    refine ⟨hn, RowsOwn.kept hg (fun r hr => ?_) h.2⟩
    have := (List.pairwise_cons.1 ha).1 r hr
    rcases this with h | h
    · rcases hb : r.ownBlock with _ | j
      · exact .inl rfl
      · exact .inr (by rw [h]; exact fun e => by cases e)
    · exact .inr (Ne.symm h)
  | v :: vs, g :: gss, k + 1, h, ha, hk => by
    have ha' := List.pairwise_cons.1 ha
    have hk' : vs[k]? = some rv := by simpa using hk
    exact ⟨h.1.kept hg (ha'.1 rv (List.mem_of_getElem? hk')), RowsOwn.upd hg hn k h.2 ha'.2 hk'⟩
  | [], [], _, _, _, hk => by simp at hk
  | [], _ :: _, _, h, _, _ => h.elim
  | _ :: _, [], _, h, _, _ => h.elim

/-- The first k rows turned. -/
def turn (k : Nat) (gss : List (List Item)) : List (List Item) := (gss.take k).map List.reverse ++ gss.drop k
theorem turn_zero (gss : List (List Item)) : turn 0 gss = gss := rfl
theorem turn_len (k : Nat) (gss : List (List Item)) : (turn k gss).length = gss.length := by simp [turn]; omega
theorem turn_all (gss : List (List Item)) : turn gss.length gss = gss.map List.reverse := by simp [turn]
theorem turn_at {k : Nat} {gss : List (List Item)} (h : k < gss.length) : (turn k gss)[k]? = some gss[k] := by
  unfold turn
  rw [List.getElem?_append_right (by simp; omega)]
  simp [Nat.min_eq_left (Nat.le_of_lt h), List.getElem?_drop]
theorem turn_step {k : Nat} {gss : List (List Item)} (h : k < gss.length) : (turn k gss).set k gss[k].reverse = turn (k + 1) gss := by
  unfold turn
  have e : ((gss.take k).map List.reverse).length = k := by simp; omega
  rw [List.set_append, if_neg (by omega), e, Nat.sub_self, List.drop_eq_getElem_cons h, List.set_cons_zero, List.take_succ_eq_append_getElem h, List.map_append]
  simp only [List.map_cons, List.map_nil, List.append_assoc, List.cons_append, List.nil_append]
theorem sndG_turn (gss : List (List Item)) : sndG (gss.reverse.map List.reverse) = revR (sndG gss) := by
  unfold sndG revR
  simp [List.map_reverse, Function.comp_def]

theorem octetS (s : ByteArray) (b i : Nat) (w : World) (hi : i < s.size) (hs : s.size ≤ 1099511627776) (h : w.cell? ⟨b, 0, none⟩ = some (.string s)) :
    Calls Try.prog 24 (#[.int .i64 i] ++ #[.pointer (some ⟨b, 0, none⟩)]) w fun e w' => e = .returned (.int .u8 (s[s.size - 1 - i]'(by omega)).toNat) ∧ w = w' := by
  have e1 : ((s.size : Int) - 1 - i).toNat = s.size - 1 - i := by omega
  have b1 : (0 : Int) ≤ (s.size : Int) - 1 - i := by omega
  have b2 : (s.size : Int) - 1 - i < (s.size : Int) := by omega
  have e2 : (s.size : Int) - 1 - i = ((s.size - 1 - i : Nat) : Int) := by omega
  go_enter Try.func24, Try.ntmps24
  go_wp2
  go_ret
  exact ⟨rfl, rfl⟩

set_option maxHeartbeats 1000000 in
theorem suffix_free (A : Option Addr) (cap : Nat) (l : List Ch) (s : ByteArray) (lg : Bool) (w : World) (hl : l.length ≤ 2097152) (hcap : l.length ≤ cap) (hs : s.size ≤ 1099511627776) (h : CharsAt w A l) :
    Calls Try.prog 14 #[.slice A l.length cap, .string s, .bool lg] w fun e w' => e = .returned (.int .i64 (optI (reachL s.data.toList.reverse lg (revR (runsOf l))))) ∧ Below w.heap.size w w' := by
  have hal : ∀ o, Below w.heap.size w (w.alloc o) := fun o => (Below.refl _ _).alloc (Nat.le_refl _) _
  have hf := runsOf_facts l
  have hne : ∃ r0 rs, revR (runsOf l) = r0 :: rs := by
    obtain ⟨r0, rs, hrs⟩ := runsOf_shape l
    have : (revR (runsOf l)).length = rs.length + 1 := by unfold revR; rw [hrs]; simp
    cases hr : revR (runsOf l) with
    | nil => rw [hr] at this; cases this
    | cons a b => exact ⟨a, b, rfl⟩
  have hrl : (revR (runsOf l)).length ≤ l.length + 1 := by unfold revR; simpa using hf.1
  have hrm : ∀ r ∈ revR (runsOf l), r.length ≤ l.length ∧ ∀ q ∈ r, q.spans.length ≤ l.length + 1 := fun r hr => by
    unfold revR at hr
    obtain ⟨r', hr', rfl⟩ := List.mem_map.1 hr
    have hr2 := List.mem_reverse.1 hr'
    exact ⟨by rw [List.length_reverse]; exact hf.2.1 r' hr2, fun q hq => hf.2.2 r' hr2 q (List.mem_reverse.1 hq)⟩
  obtain ⟨r0, rs, hrs⟩ := hne
  have cR := fun W (hB : Below w.heap.size w W) => runs_any A cap l W (by omega) hcap (h.below hB)
  have cG := fun W v (hv : RunsAt W v (revR (runsOf l))) (hc : W.cell? ⟨w.heap.size, 0, none⟩ = some (.string s)) => by
    rw [hrs] at hv
    exact reach_any 24 #[.pointer (some ⟨w.heap.size, 0, none⟩)] (enters_of Try.func24 (by kernel_rfl) rfl) s.data.toList.reverse lg v r0 rs W (by rw [List.length_reverse, len_toList]; exact hs)
      (by rw [hrs] at hrl; simp at hrl; omega) (by rw [← hrs]; intro r hr; have := (hrm r hr).1; omega) (by rw [← hrs]; intro r hr q hq; have := (hrm r hr).2 q hq; omega) hv
      (fun i hi W' hB' => by
        have hi' : i < s.size := by rw [List.length_reverse, len_toList] at hi; exact hi
        have := octetS s w.heap.size i W' hi' hs (cell_below hB' hc)
        have e : s.data.toList.reverse[i] = s[s.size - 1 - i]'(by omega) := by
          rw [List.getElem_reverse]
          simp only [len_toList]
          rfl
        rw [e]
        exact this)
  rw [← hrs] at cG
  rw [List.length_reverse, len_toList] at cG
  have hgl : ∀ gss : List (List Item), sndG gss = runsOf l → gss.length ≤ l.length + 1 ∧ 0 < gss.length ∧ ∀ gs ∈ gss, gs.length ≤ l.length := fun gss he => by
    have e1 : gss.length = (runsOf l).length := by rw [← he, sndG_len]
    refine ⟨by rw [e1]; exact hf.1, ?_, fun gs hgs => ?_⟩
    · obtain ⟨a, b, hab⟩ := runsOf_shape l
      rw [e1, hab]; simp
    · have := hf.2.1 (gs.map Prod.snd) (by rw [← he]; exact List.mem_map.2 ⟨gs, hgs, rfl⟩)
      simpa using this
  clear h hf hrl hrm hrs
  obtain ⟨W0, hW0⟩ : ∃ W0, W0 = w.alloc (.cells #[.string s] 9) := ⟨_, rfl⟩
  have hB0 : Below w.heap.size w W0 := by rw [hW0]; exact hal _
  have k0 : W0.cell? ⟨w.heap.size, 0, none⟩ = some (.string s) := by rw [hW0]; exact cell_of_one (heap_alloc_new w _)
  have cR0 := cR W0 hB0
  obtain ⟨N, hN⟩ : ∃ N, N = W0.heap.size := ⟨_, rfl⟩
  rw [← hN] at cR0
  have hwN : w.heap.size ≤ N := by rw [hN]; exact hB0.size
  clear cR hal
  have HGL := hid hgl
  clear hgl
  go_enter Try.func14, Try.ntmps14
  go_wp2_with fail
  rw [← hW0]
  have HW0 := hid hW0
  clear hW0
  refine cR0.mono ?_
  rintro e w1 ⟨v, vs, gss, rfl, hv1, hv2, hap, hv4, hv5, hb1⟩
  obtain ⟨g1, g2, g3⟩ := HGL.out gss hv5
  have hlen : vs.length = gss.length := hv2.len
  obtain ⟨g, cp, rfl, hNg, _⟩ := hv1.form g2
  rw [← hlen] at hv1 g1 g2 ⊢
  have cV := revRows_any N _ vs w1 hv1 (by omega) hv2.slices
  have HA := hid hap
  have H2 := hid hv2
  have H4 := hid hv4
  have H5 := hid hv5
  have H1 := hid hv1
  have H3 := hid g3
  have HL := hid hlen
  clear hap hv2 hv4 hv5 hv1 g3 cR0 HGL hlen
  go_wp2_with (go_at_call 22; refine cV.mono ?_; rintro e w2 ⟨rfl, ho2, hg2⟩)
  have hB2 : Below N W0 w2 := hb1.grown hg2 (by have := hb1.size; omega) (fun j hj => (H1.out.lt j hj).1)
  have hr2 : RowsOwn N w2 vs.reverse (turn 0 gss.reverse) := by
    rw [turn_zero]
    refine (H2.out.kept hg2 (fun rv hrv => ?_)).rev
    obtain ⟨n, xs, hx⟩ := H2.out.mem rv hrv
    exact own_type_ne hx H1.out (by decide)
  have hp2 : ∀ gs ∈ gss, ∀ x ∈ gs, PtAt w2 x.1 x.2 := fun gs hgs x hx => (H4.out gs hgs x hx).keep (KeepsSp.grown hg2 H1.out (by decide))
  clear cV hb1 hg2 H1 H2 H4
  go_loopw [16] (fun i wr => ∃ k : Nat, k ≤ vs.length ∧ i = .int .i64 k ∧ Below N W0 wr ∧ wr.ownsRow N 44 1 (.slice (some ⟨g, 0, none⟩) vs.length cp) vs.length vs.reverse ∧ RowsOwn N wr vs.reverse (turn k gss.reverse) ∧ ∀ gs ∈ gss, ∀ x ∈ gs, PtAt wr x.1 x.2) (fun i _ => vs.length - (intOf i).toNat)
  case atStart => exact ⟨0, Nat.zero_le _, rfl, hB2, ho2, hr2, hp2⟩
  case round =>
    clear ho2 hr2 hp2 hB2
    obtain ⟨k, hk, rfl, hB, ho, hro, hp⟩ := hrel
    have HRL : Hid (gss.reverse.length = vs.length) := hid (by rw [List.length_reverse, HL.out])
    have hrl : gss.reverse.length = vs.length := by rw [List.length_reverse, HL.out]
    by_cases hlt : k < vs.length
    · have hkr : k < gss.reverse.length := by omega
      obtain ⟨rv, hr1, hr2⟩ := hro.at_ k (by rw [turn_len]; exact hkr)
      have hG : (turn k gss.reverse)[k]'(by rw [turn_len]; exact hkr) = gss.reverse[k] := by
        have := turn_at hkr
        rw [List.getElem?_eq_getElem (by rw [turn_len]; exact hkr)] at this
        exact Option.some.inj this
      rw [hG] at hr2
      have hGm : gss.reverse[k] ∈ gss := List.mem_reverse.1 (List.getElem_mem hkr)
      have hst := turn_step hkr
      obtain ⟨G, hGG⟩ : ∃ G, G = gss.reverse[k] := ⟨_, rfl⟩
      rw [← hGG] at hr2 hGm hst
      clear hG hGG
      obtain ⟨A1, n1, c1, rfl⟩ := hro.slices k rv hr1
      have hc : wr.cell? ⟨g, k, none⟩ = some (.slice A1 n1 c1) := by rw [ho.cellAt k (by omega)]; exact hr1
      have hGl := H3.out G hGm
      have cV := revRun_any N _ G wr hr2 (by omega) (hp G hGm)
      have hk0 : (0 : Int) ≤ (k : Int) := by omega
      have hk1 : (k : Int) < (vs.length : Int) := by omega
      have HO := hid ho
      have HR := hid hro
      have HP := hid hp
      have Hr := hid hr2
      have HR1 := hid hr1
      have HST := hid hst
      clear ho hro hp hr2 hr1 hst hrl hkr HRL
      go_wp2_with (go_at_call 23; refine cV.mono ?_; rintro e w5 ⟨rfl, h5, hg5⟩)
      have hB5 := hid (hB.grown hg5 (by have := hB.size; omega) (fun j hj => (Hr.out.lt j hj).1))
      have ho5 := hid (HO.out.kept hg5 (own_type_ne HO.out Hr.out (by decide)))
      have hr5 := RowsOwn.upd (gs' := G.reverse) hg5 (by rw [List.length_reverse]; exact h5) k HR.out HA.out.rev HR1.out
      rw [HST.out] at hr5
      have HR5 := hid hr5
      have hp5 := hid (fun gs hgs x hx => (HP.out gs hgs x hx).keep (KeepsSp.grown hg5 Hr.out (by decide)))
      clear HO HR HP Hr hr5 cV h5 hg5 hB hc
      go_roundw
      case rel => exact ⟨k + 1, by omega, by go_num, hB5.out, ho5.out, HR5.out, hp5.out⟩
      case measure => simp [intOf]; omega
    · obtain rfl : k = vs.length := by omega
      rw [← hrl, turn_all] at hro
      have hR : RunsAt wr (.slice (some ⟨g, 0, none⟩) vs.length cp) (revR (runsOf l)) := by
        rw [← H5.out, ← sndG_turn]
        refine RunsAt.of_own (N := N) (vs := vs.reverse) (by rw [List.length_map]; omega) ?_ hro (fun gs hgs x hx => ?_)
        · rw [List.length_map, hrl]; exact ho
        · obtain ⟨gs', hgs', rfl⟩ := List.mem_map.1 hgs
          exact hp gs' (List.mem_reverse.1 hgs') x (List.mem_reverse.1 hx)
      have cG1 := cG wr _ hR (cell_below (by rw [← hN]; exact hB) k0)
      have hkk := cell_below (by rw [← hN]; exact hB) k0
      have hwr := hB.size
      clear ho hro hp hR cG hrl HRL
      go_wp2_with (go_at_call 19; refine cG1.mono ?_; rintro e w6 ⟨rfl, hb6⟩)
      go_ret
      exact ⟨rfl, hB0.trans ((hB.trans (hb6.mono (by omega))).mono hwN)⟩
end Go.Proofs.Ytcaenkffoilleaa
