/- The program's planner: its reader's and its builder's steps. Conditions: sizes. -/
import Derived.Test.YtckmgcdiclkoeaaDoorPpX
import Derived.Test.YtckmgcdiclkoeaaDoorPpQ
import Derived.Test.YtckmgcdiclkoeaaDoorPpM
import Derived.RegionTactic
import Derived.BigRegion
namespace Go.Proofs.YtckmgcdiclkoeaaDoor
open Go.RowKit
open Go.Lib (hid)

def Cv.cells (c : Cv) : List Value := [.int .i64 c.sp.wide, .bool c.sp.left, .bool (c.sp.zeros && numB c.sp.letter), encS c.ahead, .int .u8 c.sp.letter.toNat]
def cvsV (l : List Cv) : List Value := l.flatMap Cv.cells
def plC (f : List UInt8) (k : Nat) (p v cv : Value) (fl : Bool) : Array Value := #[encS f, .int .i64 k, p, v, cv, encS [], .bool fl]
/-- A planner at a place of its format: what it wrote since the last conversion, its conversions, is there a fault. -/
def PlAt (B b : Nat) (f : List UInt8) (k : Nat) (acc : List UInt8) (cvs : List Cv) (fl : Bool) (w : World) : Prop :=
  ∃ p v cv, Bld 56 B b 2 (plC f k p v cv fl) acc w ∧ w.ownsRow B 62 5 cv cvs.length (cvsV cvs) ∧ B ≤ w.heap.size
theorem plC_set (f : List UInt8) (k : Nat) (p v cv : Value) (fl : Bool) (q u : Value) : ((plC f k p v cv fl).setIfInBounds 2 q).setIfInBounds (2 + 1) u = plC f k q u cv fl := by simp [plC]
theorem plC_size (f : List UInt8) (k : Nat) (p v cv : Value) (fl : Bool) : (plC f k p v cv fl).size = 7 := rfl
theorem lies_pl : liesAt Tryd.prog Tryd.prog.depth 56 (7 / Tryd.prog.cellsOf 56) 2 43 1 = true := by kernel_rfl
theorem ne_pl_u8 : 56 ≠ 5 := by decide
theorem ne_cv_u8 : 62 ≠ 5 := by decide
theorem ne_pl_cv : 56 ≠ 62 := by decide
theorem ownBlock_neE {w : World} {B k : Nat} {e T : TypeId} {v : Value} {n : Nat} {xs : List Value} {b : Nat} {cs : Array Value} {fr : Nat × Nat} (hown : w.ownsRow B e k v n xs) (hb : w.heap[b]? = some (.cells cs T fr)) (hTe : T ≠ e) : v.ownBlock ≠ some b := by
  rcases hown.2 with ⟨rfl, _⟩ | ⟨g, cap, cur, rfl, _, hg, _⟩
  · simp [Value.ownBlock]
  · intro h
    simp only [Value.ownBlock, Option.some.injEq] at h
    subst h
    rw [hg] at hb
    simp only [Option.some.injEq, Obj.cells.injEq] at hb
    exact hTe hb.2.1.symm
theorem PlAt.drew {B b k : Nat} {f acc : List UInt8} {cvs : List Cv} {fl : Bool} {w : World} (h : PlAt B b f k acc cvs fl w) : PlAt B b f k acc cvs fl w.drew := h
theorem PlAt.drewN {B b k : Nat} {f acc : List UInt8} {cvs : List Cv} {fl : Bool} {w : World} (h : PlAt B b f k acc cvs fl w) (n : Nat) : PlAt B b f k acc cvs fl (w.drewN n) := h
theorem PlAt.below {B b k : Nat} {f acc : List UInt8} {cvs : List Cv} {fl : Bool} {w w' : World} (h : PlAt B b f k acc cvs fl w) (hb : Below w.heap.size w w') : PlAt B b f k acc cvs fl w' := by
  obtain ⟨p, v, cv, h1, h2, h3⟩ := h
  exact ⟨p, v, cv, h1.below hb, own_below h2 hb, Nat.le_trans h3 hb.size⟩
/-- The cells that a walk reads. -/
theorem PlAt.c0 {B b k : Nat} {f acc : List UInt8} {cvs : List Cv} {fl : Bool} {w : World} (h : PlAt B b f k acc cvs fl w) : w.cell? ⟨b, 0, none⟩ = some (encS f) := by
  obtain ⟨p, v, cv, h1, -⟩ := h
  exact Lib.cell_of_heap h1.2.2.1 0
theorem PlAt.c1 {B b k : Nat} {f acc : List UInt8} {cvs : List Cv} {fl : Bool} {w : World} (h : PlAt B b f k acc cvs fl w) : w.cell? ⟨b, 1, none⟩ = some (.int .i64 k) := by
  obtain ⟨p, v, cv, h1, -⟩ := h
  exact Lib.cell_of_heap h1.2.2.1 1
theorem PlAt.c6 {B b k : Nat} {f acc : List UInt8} {cvs : List Cv} {fl : Bool} {w : World} (h : PlAt B b f k acc cvs fl w) : w.cell? ⟨b, 6, none⟩ = some (.bool fl) := by
  obtain ⟨p, v, cv, h1, -⟩ := h
  exact Lib.cell_of_heap h1.2.2.1 6
theorem PlAt.free {B b k : Nat} {f acc : List UInt8} {cvs : List Cv} {fl : Bool} {w : World} (h : PlAt B b f k acc cvs fl w) (j : Nat) : w.frozen? ⟨b, j, none⟩ = false := by
  obtain ⟨p, v, cv, h1, -⟩ := h
  exact Lib.frozen_of_heap h1.2.2.1 j
/-- A fault told. -/
theorem PlAt.fault {B b k : Nat} {f acc : List UInt8} {cvs : List Cv} {fl : Bool} {w : World} (h : PlAt B b f k acc cvs fl w) : PlAt B b f k acc cvs true (w.setCell ⟨b, 6, none⟩ (.bool true)) ∧ Below B w (w.setCell ⟨b, 6, none⟩ (.bool true)) := by
  obtain ⟨p, v, cv, h1, h2, h3⟩ := h
  refine ⟨⟨p, v, cv, h1.other (.bool true) (by omega) (by omega), ?_, by simpa using h3⟩, (Below.refl _ _).setCell h1.1 _⟩
  exact h2.kept (row := some b) ⟨rfl, rfl, rfl, by simp, fun g _ hg => Below.heap_setCell _ _ _ _ (fun e => hg (by rw [e]))⟩ (.inr (ownBlock_neE h2 h1.2.2.1 ne_pl_cv))

theorem PlAt.step {B b k k' : Nat} {f acc : List UInt8} {cvs : List Cv} {fl : Bool} {p v cv : Value} {w w' : World} (h1 : Bld 56 B b 2 (plC f k p v cv fl) acc w) (h2 : w.ownsRow B 62 5 cv cvs.length (cvsV cvs)) (h3 : B ≤ w.heap.size)
    (hb : w'.heap[b]? = some (.cells ((plC f k p v cv fl).setIfInBounds 1 (.int .i64 (k' : Int))) 56 (0, 0))) (ho : One b w w') : PlAt B b f k' acc cvs fl w' ∧ Below B w w' := by
  refine ⟨⟨p, v, cv, h1.self ho hb ?_ ?_, h2.kept ho (.inr (ownBlock_neE h2 h1.2.2.1 ne_pl_cv)), Nat.le_trans h3 ho.size⟩, (ho.bears B).below h1.1 h3⟩
  · rfl
  · rfl
/-- A reader's run over a planner. -/
theorem PlAt.run {B b k : Nat} {f acc : List UInt8} {cvs : List Cv} {fl : Bool} {w : World} (h : PlAt B b f k acc cvs fl w) (of : List UInt8) (most : Nat) (hk : k ≤ f.length) (hs : f.length ≤ 140737488351232) :
    Calls Tryd.prog 21 #[.pointer (some ⟨b, 0, none⟩), encS of, .int .i64 most] w fun e w' => e = .returned (encS (runL of most (f.drop k))) ∧ PlAt B b f (k + (runL of most (f.drop k)).length) acc cvs fl w' ∧ Below B w w' := by
  obtain ⟨p, v, cv, h1, h2, h3⟩ := h
  refine (run_any 56 b _ f of k most w h1.2.2.1 rfl rfl hk hs).mono ?_
  rintro e w' ⟨rfl, hb, ho⟩
  exact ⟨rfl, PlAt.step h1 h2 h3 hb ho⟩
theorem PlAt.lit {B b k : Nat} {f acc t : List UInt8} {c : UInt8} {cvs : List Cv} {fl : Bool} {w : World} (h : PlAt B b f k acc cvs fl w) (hd : f.drop k = c :: t) (hs : f.length ≤ 140737488351232) :
    Calls Tryd.prog 19 #[.pointer (some ⟨b, 0, none⟩)] w fun e w' => e = .returned (encS (litT c t).1) ∧ PlAt B b f (k + (litT c t).2) acc cvs fl w' ∧ Below B w w' := by
  obtain ⟨p, v, cv, h1, h2, h3⟩ := h
  refine (plit_any 56 b _ f k c t w h1.2.2.1 rfl rfl hd hs).mono ?_
  rintro e w' ⟨rfl, hb, ho⟩
  exact ⟨rfl, PlAt.step h1 h2 h3 hb ho⟩
theorem PlAt.more {B b k : Nat} {f acc : List UInt8} {cvs : List Cv} {fl : Bool} {w : World} (h : PlAt B b f k acc cvs fl w) :
    Calls Tryd.prog 17 #[.pointer (some ⟨b, 0, none⟩)] w fun e w' => e = .returned (.bool (decide (k < f.length))) ∧ ∃ m, w' = w.drewN m := by
  have c := more_any b ⟨f.toArray⟩ k w h.c0 h.c1
  rwa [show (⟨f.toArray⟩ : ByteArray).size = f.length by simp [ByteArray.size]] at c
theorem PlAt.byte {B b k : Nat} {f acc : List UInt8} {cvs : List Cv} {fl : Bool} {w : World} (h : PlAt B b f k acc cvs fl w) (x : UInt8) (hl : acc.length ≤ 140737488351232) :
    Calls Tryd.prog 29 #[.pointer (some ⟨b, 2, none⟩), .int .u8 x.toNat] w fun e w' => e = .returned .nilIface ∧ PlAt B b f k (acc ++ [x]) cvs fl w' ∧ Below B w w' := by
  obtain ⟨p, v, cv, h1, h2, h3⟩ := h
  refine (bbyte_any 56 B b 2 _ acc x w (by rw [plC_size]; exact lies_pl) h1 (by omega) h3).mono ?_
  rintro e w' ⟨rfl, ⟨v', hb⟩, ho⟩
  rw [plC_set] at hb
  exact ⟨rfl, ⟨_, v', cv, hb, ho.row h2 ne_cv_u8 (ownBlock_neE h2 h1.2.2.1 ne_pl_cv), Nat.le_trans h3 ho.size⟩, ho.below h1.1 h3⟩
theorem PlAt.str {B b k : Nat} {f acc : List UInt8} {cvs : List Cv} {fl : Bool} {w : World} (h : PlAt B b f k acc cvs fl w) (x : List UInt8) (hl : acc.length + x.length ≤ 140737488351232) :
    Calls Tryd.prog 18 #[.pointer (some ⟨b, 2, none⟩), encS x] w fun e w' => e = .returned (.tuple #[.int .i64 x.length, .nilIface]) ∧ PlAt B b f k (acc ++ x) cvs fl w' ∧ Below B w w' := by
  obtain ⟨p, v, cv, h1, h2, h3⟩ := h
  refine (bstr_any 56 B b 2 _ acc x w (by rw [plC_size]; exact lies_pl) h1 (by omega) h3).mono ?_
  rintro e w' ⟨rfl, ⟨v', hb⟩, ho⟩
  rw [plC_set] at hb
  exact ⟨rfl, ⟨_, v', cv, hb, ho.row h2 ne_cv_u8 (ownBlock_neE h2 h1.2.2.1 ne_pl_cv), Nat.le_trans h3 ho.size⟩, ho.below h1.1 h3⟩

/-- What stands behind a mark: flag, digits, letter, as the planner reads them. -/
def fl2 : List UInt8 := [45, 48]
def dg10 : List UInt8 := [48, 49, 50, 51, 52, 53, 54, 55, 56, 57]
def lt6 : List UInt8 := [115, 98, 100, 99, 120, 111]
theorem in_fl2 : ∀ c : UInt8, inB fl2 c = flagB c := Ans.all_u8 (by decide +kernel)
theorem in_dg10 : ∀ c : UInt8, inB dg10 c = digB c := Ans.all_u8 (by decide +kernel)
theorem in_lt6 : ∀ c : UInt8, inB lt6 c = letterB c := Ans.all_u8 (by decide +kernel)
theorem run_one (of : List UInt8) (t : List UInt8) : (runL of 1 t = [] ∧ ∀ c r, t = c :: r → inB of c = false) ∨ (∃ c r, t = c :: r ∧ inB of c = true ∧ runL of 1 t = [c]) := by
  cases t with
  | nil => exact .inl ⟨rfl, fun _ _ h => by cases h⟩
  | cons c r =>
    unfold runL
    rw [List.take_succ_cons, List.take_zero, List.takeWhile_cons]
    cases h : inB of c with
    | false => exact .inl ⟨by simp, fun c' r' e => by obtain ⟨rfl, rfl⟩ := List.cons.inj e; exact h⟩
    | true => exact .inr ⟨c, r, rfl, h, by simp⟩
theorem run_dg (t : List UInt8) : runL dg10 3 t = widthL t := by
  unfold runL widthL
  rw [show inB dg10 = digB from funext in_dg10]
theorem width_all (t : List UInt8) : ∀ c ∈ widthL t, digB c = true := fun c hc => by
  unfold widthL at hc
  exact mem_takeWhile digB _ c hc
theorem specL_cons (c : UInt8) (r : List UInt8) : specL (c :: r) = if c = 37 then ⟨37, false, false, 0, 2⟩ else if flagB c then specB (c == 45) (c == 48) 2 r else specB false false 1 (c :: r) := rfl
/-- The conversion behind a mark that no second one follows. -/
theorem spec_read (t : List UInt8) (h37 : ∀ r, t ≠ 37 :: r) (g u d lt : List UInt8) (hg : g = runL fl2 1 t) (hu : u = t.drop g.length) (hd : d = widthL u) (hlt : lt = runL lt6 1 (u.drop d.length)) :
    (lt = [] ∧ (specL t).letter = 0) ∨ (∃ c, lt = [c] ∧ letterB c = true ∧ specL t = ⟨c, g == [45], g == [48], decN d, g.length + d.length + 2⟩) := by
  have key : ∀ (a b : Bool) (k : Nat), (lt = [] ∧ (specB a b k u).letter = 0) ∨ (∃ c, lt = [c] ∧ letterB c = true ∧ specB a b k u = ⟨c, a, b, decN d, k + d.length + 1⟩) := fun a b k => by
    unfold specB
    rw [← hd]
    rcases run_one lt6 (u.drop d.length) with ⟨h1, h2⟩ | ⟨c, r, h1, h2, h3⟩
    · left
      refine ⟨by rw [hlt, h1], ?_⟩
      cases hr : u.drop d.length with
      | nil => rfl
      | cons c r =>
        have := h2 c r hr
        rw [in_lt6] at this
        simp only [this]
        rfl
    · right
      rw [in_lt6] at h2
      refine ⟨c, by rw [hlt, h3], h2, ?_⟩
      rw [h1]
      simp only [h2, if_true]
  rcases run_one fl2 t with ⟨h1, h2⟩ | ⟨c, r, h1, h2, h3⟩
  · have hg0 : g = [] := by rw [hg, h1]
    have hut : u = t := by rw [hu, hg0]; rfl
    have hs : specL t = specB false false 1 u := by
      rw [hut]
      cases t with
      | nil => rfl
      | cons c r =>
        have h3 := h2 c r rfl
        rw [in_fl2] at h3
        rw [specL_cons, if_neg (fun e => h37 r (by rw [e])), if_neg (by rw [h3]; simp)]
    rw [hs, hg0]
    rcases key false false 1 with h | ⟨c, a1, a2, a3⟩
    · exact .inl h
    · exact .inr ⟨c, a1, a2, by rw [a3]; simp; omega⟩
  · have hg0 : g = [c] := by rw [hg, h3]
    have hut : u = r := by rw [hu, hg0, h1]; rfl
    rw [in_fl2] at h2
    have hs : specL t = specB (c == 45) (c == 48) 2 u := by
      rw [hut, h1]
      rw [specL_cons, if_neg (fun e => h37 r (by rw [h1, e])), if_pos h2]
    rw [hs, hg0]
    rcases key (c == 45) (c == 48) 2 with h | ⟨c', a1, a2, a3⟩
    · exact .inl h
    · exact .inr ⟨c', a1, a2, by rw [a3]; simp; omega⟩
end Go.Proofs.YtckmgcdiclkoeaaDoor
