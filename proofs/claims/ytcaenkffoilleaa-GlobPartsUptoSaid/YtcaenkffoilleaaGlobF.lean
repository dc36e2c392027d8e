/- What glob.runs makes, in memory: rows of parts, in a row. No conditions. -/
import Derived.Test.YtcaenkffoilleaaGlobE
import Derived.Test.YtcaenkffoilleaaGlobT
import Derived.RangeFuncBox
import Derived.Maps.AppendAt
namespace Go.Proofs.Ytcaenkffoilleaa
open Go.RowKit Go.Shelf
open Go.Lib (hid)

abbrev Item := Value × Pt
def cellsG (gs : List Item) : List Value := gs.flatMap fun x => x.1.cells.toList

/-- Rows of parts, each in memory of its own. -/
def RowsOwn (N : Nat) (W : World) : List Value → List (List Item) → Prop
  | [], [] => True
  | rv :: vs, gs :: gss => W.ownsRow N 48 3 rv gs.length (cellsG gs) ∧ RowsOwn N W vs gss
  | _, _ => False
def Apart (vs : List Value) : Prop := vs.Pairwise fun a b => a.ownBlock = none ∨ a.ownBlock ≠ b.ownBlock

theorem RowsOwn.len {N : Nat} {W : World} : ∀ {vs : List Value} {gss : List (List Item)}, RowsOwn N W vs gss → vs.length = gss.length
  | [], [], _ => rfl
  | _ :: _, _ :: _, h => by simp [RowsOwn.len h.2]
  | [], _ :: _, h => h.elim
  | _ :: _, [], h => h.elim
theorem RowsOwn.snoc {N : Nat} {W : World} {rv : Value} {gs : List Item} : ∀ {vs : List Value} {gss : List (List Item)}, RowsOwn N W vs gss → W.ownsRow N 48 3 rv gs.length (cellsG gs) → RowsOwn N W (vs ++ [rv]) (gss ++ [gs])
  | [], [], _, h => ⟨h, trivial⟩
  | _ :: _, _ :: _, h, h2 => ⟨h.1, RowsOwn.snoc h.2 h2⟩
  | [], _ :: _, h, _ => h.elim
  | _ :: _, [], h, _ => h.elim
theorem RowsOwn.unsnoc {N : Nat} {W : World} {gs : List Item} : ∀ {vs : List Value} {gss : List (List Item)}, RowsOwn N W vs (gss ++ [gs]) → ∃ vi rv, vs = vi ++ [rv] ∧ RowsOwn N W vi gss ∧ W.ownsRow N 48 3 rv gs.length (cellsG gs)
  | [], [], h => h.elim
  | [rv], [], h => ⟨[], rv, rfl, trivial, h.1⟩
  | _ :: _ :: _, [], h => h.2.elim
  | [], _ :: _, h => h.elim
  | rv :: vs, g :: gss, h => by
    obtain ⟨vi, rv', e, h1, h2⟩ := RowsOwn.unsnoc h.2
    exact ⟨rv :: vi, rv', by rw [e]; rfl, ⟨h.1, h1⟩, h2⟩
theorem RowsOwn.kept {N : Nat} {W W' : World} {row : Option Nat} (hg : W.grownBy W' row) : ∀ {vs : List Value} {gss : List (List Item)}, (∀ rv ∈ vs, rv.ownBlock = none ∨ rv.ownBlock ≠ row) → RowsOwn N W vs gss → RowsOwn N W' vs gss
  | [], [], _, h => h
  | rv :: _, _ :: _, hne, h => ⟨h.1.kept hg (hne rv (List.mem_cons_self ..)), RowsOwn.kept hg (fun r hr => hne r (List.mem_cons_of_mem _ hr)) h.2⟩
  | [], _ :: _, _, h => h.elim
  | _ :: _, [], _, h => h.elim
theorem RowsOwn.mem {N : Nat} {W : World} : ∀ {vs : List Value} {gss : List (List Item)}, RowsOwn N W vs gss → ∀ rv ∈ vs, ∃ n xs, W.ownsRow N 48 3 rv n xs
  | [], [], _, _, h => by cases h
  | rv :: _, gs :: _, h, r, hr => by
    rcases List.mem_cons.1 hr with rfl | hr
    · exact ⟨_, _, h.1⟩
    · exact RowsOwn.mem h.2 r hr
  | [], _ :: _, h, _, _ => h.elim
  | _ :: _, [], h, _, _ => h.elim

theorem own_type_ne {W : World} {N N' e e' s s' n n' : Nat} {v v' : Value} {xs xs' : List Value} (h : W.ownsRow N e s v n xs) (h' : W.ownsRow N' e' s' v' n' xs') (he : e ≠ e') : v.ownBlock = none ∨ v.ownBlock ≠ v'.ownBlock := by
  rcases h.2 with ⟨rfl, _⟩ | ⟨g, cap, cur, rfl, _, hh, _⟩
  · exact .inl rfl
  · refine .inr fun e1 => ?_
    rcases h'.2 with ⟨rfl, _⟩ | ⟨g', cap', cur', rfl, _, hh', _⟩
    · cases e1
    · simp only [Value.ownBlock, Option.some.injEq] at e1
      subst e1
      rw [hh] at hh'
      simp at hh'
      exact he hh'.2
theorem own_box_ne {W : World} {N e s n B : Nat} {v u : Value} {t : TypeId} {xs : List Value} (h : W.ownsRow N e s v n xs) (hb : W.heap[B]? = some (.cells #[u] t (0, 0))) (he : e ≠ t) : v.ownBlock ≠ some B := by
  intro e1
  rcases h.2 with ⟨rfl, _⟩ | ⟨g, cap, cur, rfl, _, hh, _⟩
  · cases e1
  · simp only [Value.ownBlock, Option.some.injEq] at e1
    subst e1
    rw [hh] at hb
    simp at hb
    exact he hb.2
theorem KeepsSp.grown {W W' : World} {N e s n : Nat} {v : Value} {xs : List Value} (hg : W.grownBy W' v.ownBlock) (h : W.ownsRow N e s v n xs) (he : e ≠ 59) : KeepsSp W W' := fun g cs hc => by
  refine (hg.block g (lt_of_block hc) fun e1 => ?_).trans hc
  rcases h.2 with ⟨rfl, _⟩ | ⟨g', cap, cur, rfl, _, hh, _⟩
  · cases e1
  · simp only [Value.ownBlock, Option.some.injEq] at e1
    subst e1
    rw [hh] at hc
    simp at hc
    exact he hc.2
theorem KeepsSp.set {W : World} {B k : Nat} {u : Value} {cs : Array Value} {t : TypeId} {fr : Nat × Nat} (h : W.heap[B]? = some (.cells cs t fr)) (ht : t ≠ 59) : KeepsSp W (W.setCell ⟨B, k, none⟩ u) := fun g cs' hg => by
  have hne : g ≠ B := by
    rintro rfl
    rw [h] at hg
    simp at hg
    exact ht hg.2.1
  exact (Below.heap_setCell _ _ _ _ hne).trans hg

/-- The runs, with what each part lies as. -/
def addG : List (List Item) → Item → List (List Item)
  | [], _ => []
  | [r], q => [r ++ [q]]
  | r :: r' :: rs, q => r :: addG (r' :: rs) q
def stepG (out : List (List Item)) (q : Item) : List (List Item) := if q.2.star then out ++ [[]] else addG out q
def runsG (ps : List Item) : List (List Item) := ps.foldl stepG [[]]
theorem addG_snoc : ∀ (init : List (List Item)) (r : List Item) (q : Item), addG (init ++ [r]) q = init ++ [r ++ [q]]
  | [], _, _ => rfl
  | [_], _, _ => rfl
  | a :: b :: l, r, q => by
    show a :: addG ((b :: l) ++ [r]) q = _
    rw [addG_snoc (b :: l) r q]; rfl
theorem runsG_snoc (ps : List Item) (q : Item) : runsG (ps ++ [q]) = stepG (runsG ps) q := by simp [runsG]
def sndG (gss : List (List Item)) : List (List Pt) := gss.map fun gs => gs.map Prod.snd
theorem addG_snd : ∀ (out : List (List Item)) (q : Item), sndG (addG out q) = addLast (sndG out) q.2
  | [], _ => rfl
  | [r], q => by simp [sndG, addG, addLast]
  | r :: r' :: rs, q => by
    have := addG_snd (r' :: rs) q
    simp only [sndG, List.map_cons] at this ⊢
    simp only [addG, addLast, List.map_cons, this]
theorem runsG_snd (ps : List Item) : sndG (runsG ps) = runsL (ps.map Prod.snd) := by
  suffices h : ∀ (ps : List Item) (out : List (List Item)), sndG (ps.foldl stepG out) = (ps.map Prod.snd).foldl stepR (sndG out) from h ps [[]]
  intro ps
  induction ps with
  | nil => intro out; rfl
  | cons q ps ih =>
    intro out
    simp only [List.foldl_cons, List.map_cons]
    rw [ih]
    congr 1
    unfold stepG stepR
    split
    · simp [sndG]
    · exact addG_snd out q
theorem runsG_shape (ps : List Item) : ∃ init r, runsG ps = init ++ [r] := by
  suffices h : ∀ (ps : List Item) (out : List (List Item)), (∃ init r, out = init ++ [r]) → ∃ init r, ps.foldl stepG out = init ++ [r] from h ps _ ⟨[], [], rfl⟩
  intro ps
  induction ps with
  | nil => intro out h; exact h
  | cons q ps ih =>
    rintro out ⟨init, r, rfl⟩
    refine ih _ ?_
    unfold stepG
    split
    · exact ⟨_, _, rfl⟩
    · exact ⟨_, _, addG_snoc _ _ _⟩
theorem runsG_mem (ps : List Item) : ∀ gs ∈ runsG ps, ∀ x ∈ gs, x ∈ ps := by
  suffices h : ∀ (ps : List Item) (out : List (List Item)) (S : List Item), (∃ init r, out = init ++ [r]) → (∀ gs ∈ out, ∀ x ∈ gs, x ∈ S) → ∀ gs ∈ ps.foldl stepG out, ∀ x ∈ gs, x ∈ S ++ ps by
    intro gs hgs x hx
    simpa using h ps [[]] [] ⟨[], [], rfl⟩ (by simp) gs hgs x hx
  intro ps
  induction ps with
  | nil => intro out S _ h gs hgs x hx; simpa using h gs hgs x hx
  | cons q ps ih =>
    rintro out S ⟨init, r, rfl⟩ h gs hgs x hx
    simp only [List.foldl_cons] at hgs
    have := ih (stepG (init ++ [r]) q) (S ++ [q]) (by
      unfold stepG
      split
      · exact ⟨_, _, rfl⟩
      · exact ⟨_, _, addG_snoc _ _ _⟩) (by
      intro gs hgs x hx
      unfold stepG at hgs
      split at hgs
      · rcases List.mem_append.1 hgs with hgs | hgs
        · exact List.mem_append_left _ (h gs hgs x hx)
        · simp at hgs; subst hgs; cases hx
      · rw [addG_snoc] at hgs
        rcases List.mem_append.1 hgs with hgs | hgs
        · exact List.mem_append_left _ (h gs (List.mem_append_left _ hgs) x hx)
        · simp at hgs; subst hgs
          rcases List.mem_append.1 hx with hx | hx
          · exact List.mem_append_left _ (h r (by simp) x hx)
          · simp at hx; subst hx; simp) gs hgs x hx
    simpa using this
theorem sndG_len (gss : List (List Item)) : (sndG gss).length = gss.length := by simp [sndG]
theorem runsG_len (ps : List Item) : (runsG ps).length ≤ ps.length + 1 ∧ ∀ gs ∈ runsG ps, gs.length ≤ ps.length := by
  have h := runsL_len (ps.map Prod.snd)
  rw [← runsG_snd, sndG_len, List.length_map] at h
  refine ⟨h.1, fun gs hgs => ?_⟩
  have := h.2 (gs.map Prod.snd) (List.mem_map.2 ⟨gs, hgs, rfl⟩)
  rwa [List.length_map] at this

/-- The variable 'out' of runs: the row of rows. -/
structure OutI (N B : Nat) (pre : List Item) (v : Value) (vs : List Value) (W : World) : Prop where
  box : W.heap[B]? = some (.cells #[v] 40 (0, 0))
  row : W.ownsRow N 44 1 v (runsG pre).length vs
  rows : RowsOwn N W vs (runsG pre)
  apart : Apart vs
  parts : ∀ x ∈ pre, PtAt W x.1 x.2

theorem ownsFrom_kept {N : Nat} {v : Value} {W W' : World} {e s n : Nat} {xs : List Value} {row : Option Nat} (h : W.ownsRow N e s v n xs) (_hg : W.grownBy W' row) (hr : ∀ r, row = some r → ∃ o : Obj, W.heap[r]? = some o ∧ o.isCells = false) : v.ownBlock = none ∨ v.ownBlock ≠ row := by
  rcases h.2 with ⟨rfl, _⟩ | ⟨g, cap, cur, rfl, _, hh, _⟩
  · exact .inl rfl
  · refine .inr fun e1 => ?_
    obtain ⟨o, ho, hc⟩ := hr g (e1.symm)
    rw [hh] at ho
    cases ho
    cases hc
theorem cells_kept {W W' : World} {row : Option Nat} {B : Nat} {cs : Array Value} {t : TypeId} {fr : Nat × Nat} (h : W.heap[B]? = some (.cells cs t fr)) (hg : W.grownBy W' row) (hr : ∀ r, row = some r → ∃ o : Obj, W.heap[r]? = some o ∧ o.isCells = false) : W'.heap[B]? = some (.cells cs t fr) := by
  refine (hg.block B (lt_of_block h) fun e1 => ?_).trans h
  obtain ⟨o, ho, hc⟩ := hr B e1.symm
  rw [h] at ho
  cases ho
  cases hc
theorem keeps_other {W W' : World} {row : Option Nat} (hg : W.grownBy W' row) (hr : ∀ r, row = some r → ∃ o : Obj, W.heap[r]? = some o ∧ o.isCells = false) : KeepsSp W W' := fun _ _ h => cells_kept h hg hr
theorem OutI.kept {N B : Nat} {pre : List Item} {v : Value} {vs : List Value} {W W' : World} {row : Option Nat} (h : OutI N B pre v vs W) (hg : W.grownBy W' row) (hr : ∀ r, row = some r → ∃ o : Obj, W.heap[r]? = some o ∧ o.isCells = false) : OutI N B pre v vs W' :=
  ⟨cells_kept h.box hg hr, h.row.kept hg (ownsFrom_kept h.row hg hr), h.rows.kept hg (fun rv hrv => by
    obtain ⟨n, xs, ho⟩ := h.rows.mem rv hrv
    exact ownsFrom_kept ho hg hr), h.apart, fun x hx => (h.parts x hx).keep (keeps_other hg hr)⟩
end Go.Proofs.Ytcaenkffoilleaa
