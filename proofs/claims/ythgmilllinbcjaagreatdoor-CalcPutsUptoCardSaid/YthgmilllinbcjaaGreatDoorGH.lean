/- Variables in memory; contract of calc's copied: the same variable, of new memory. Conditions: sizes. A region that draws its order, with no defer in it, walked as everywhere, serves within a round of a range over a function, where the fence is wide. No conditions. A range over a function whose iterator turns, besides walks, blocks of bools of its own. No conditions. Contract of calc's copies: a list of all that is handed out, of new memory. Conditions: no more than a list may have. What slices.Values hands out of variables in memory, in the form that copies asks. No conditions. What mixed leans on: laws at its map and its list of bools within a fence, places, mixed variables. No conditions. What mixed hands out: the variables, in order, a fresh one instead of all of its name. No conditions. Contracts of copies over slices.Values and over mixed; of calc's Put. Conditions: sizes. Contract of arith.Names at any expression: its names, each once. Conditions: fewer nodes than a list may have places. -/
import Derived.Test.YthgmilllinbcjaaGreatDoorGG
import Derived.Deep.RegionHeld3
import Derived.Deep.RegionLaw
import Derived.Deep.AppendLies
import Derived.Laws.Rows
import Derived.RangeFuncBox
import Derived.RangeFuncNested
import Derived.RangeFuncBound
import Derived.RangeFuncCalls
import Derived.RangeFuncLeaves
import Derived.Shelf.Abstract
import Derived.Shelf.RegionOpen
import Derived.OwnWalkIn
import Derived.TacticsInMore
import Derived.LoopNIn
import Derived.LoopIn
import Derived.OrdersIn
import Derived.Deep.RegionHeld
import Derived.Test.YthgmilllinbcjaaGreatDoorZCalQA
import Derived.Maps.OwnIn
import Derived.Deep.OwnRows
import Derived.Test.YthgmilllinbcjaaGreatDoorGD
namespace Go.Proofs.YthgmilllinbcjaaGreatDoor
open Go.RowKit
open Go.Lib (hid)

abbrev encS (x : List UInt8) : Value := .string ⟨x.toArray⟩
/-- The slice at A holds these texts, in blocks of which P holds. -/
def TextsP (w : World) (P : Nat → Prop) (A : Option Addr) (ls : List (List UInt8)) : Prop := ∀ k (h : k < ls.length), ∃ g o, A = some ⟨g, o, none⟩ ∧ P g ∧ w.cell? ⟨g, o + k, none⟩ = some (encS ls[k])
theorem TextsP.frame {w w' : World} {P Q : Nat → Prop} {A : Option Addr} {ls : List (List UInt8)} (h : TextsP w P A ls) (hf : ∀ g, g < w.heap.size → P g → Q g ∧ w'.heap[g]? = w.heap[g]?) : TextsP w' Q A ls := fun k hk => by
  obtain ⟨g, o, e, hp, hc⟩ := h k hk
  obtain ⟨h1, h2⟩ := hf g (World.block_lt_of_cell? w _ hc) hp
  exact ⟨g, o, e, h1, by simpa [World.cell?, h2] using hc⟩
/-- Blocks of texts from N on. -/
def PS (w : World) (N : Nat) (g : Nat) : Prop := N ≤ g ∧ ∃ cs, w.heap[g]? = some (.cells cs 9 (0, 0))
theorem TextsP.of_own {w : World} {N n c : Nat} {A : Option Addr} {ls : List (List UInt8)} (h : w.ownsRow N 9 1 (.slice A n c) n (ls.map encS)) : TextsP w (PS w N) A ls := fun k hk => by
  have hn : ls.length = n := by have := h.1; simpa using this
  rcases h.2 with ⟨h0, h1⟩ | ⟨g, cap, cur, hv, hN, hcur, _⟩
  · omega
  · cases hv
    exact ⟨g, 0, rfl, ⟨hN, _, hcur⟩, by
      have := h.cells (g := g) rfl k (encS ls[k]) (by simp [hk])
      by_cases h0 : k = 0
      · subst h0; simpa [Addr.add] using this
      · simpa [Addr.add, h0] using this⟩
/-- What holds of a variable's sizes. -/
structure SizeV (v : V) : Prop where
  nm : v.nm.length ≤ 140737488355328
  tx : v.tx.length ≤ 140737488355328
  ls : v.ls.length * 16 ≤ 140737488355328
  each : ∀ l ∈ v.ls, l.length ≤ 140737488355328
def ItemP (w : World) (P : Nat → Prop) (x : VI) : Prop := TextsP w P x.A x.v.ls ∧ SizeV x.v
theorem ItemP.frame {w w' : World} {P Q : Nat → Prop} {x : VI} (h : ItemP w P x) (hf : ∀ g, g < w.heap.size → P g → Q g ∧ w'.heap[g]? = w.heap[g]?) : ItemP w' Q x := ⟨h.1.frame hf, h.2⟩
theorem ItemP.below {w w' : World} {P : Nat → Prop} {x : VI} (h : ItemP w P x) (hb : Below w.heap.size w w') : ItemP w' P x := h.frame fun g hg hp => ⟨hp, hb.block g hg⟩
/-- The slice at A holds these variables. -/
def VarsP (w : World) (P : Nat → Prop) (A : Option Addr) (l : List VI) : Prop :=
  (∀ k (h : k < l.length), ∃ g o, A = some ⟨g, o, none⟩ ∧ P g ∧ w.cell? ⟨g, o + k * 4, none⟩ = some (encS l[k].v.nm) ∧ w.cell? ⟨g, o + k * 4 + 1, none⟩ = some (encS l[k].v.tx) ∧ w.cell? ⟨g, o + k * 4 + 2, none⟩ = some (.bool l[k].v.ar) ∧ w.cell? ⟨g, o + k * 4 + 3, none⟩ = some (.slice l[k].A l[k].v.ls.length l[k].c)) ∧ ∀ x ∈ l, ItemP w P x
theorem VarsP.frame {w w' : World} {P Q : Nat → Prop} {A : Option Addr} {l : List VI} (h : VarsP w P A l) (hf : ∀ g, g < w.heap.size → P g → Q g ∧ w'.heap[g]? = w.heap[g]?) : VarsP w' Q A l := by
  refine ⟨fun k hk => ?_, fun x hx => (h.2 x hx).frame hf⟩
  obtain ⟨g, o, e, hp, c0, c1, c2, c3⟩ := h.1 k hk
  obtain ⟨h1, h2⟩ := hf g (World.block_lt_of_cell? w _ c0) hp
  exact ⟨g, o, e, h1, by simpa [World.cell?, h2] using c0, by simpa [World.cell?, h2] using c1, by simpa [World.cell?, h2] using c2, by simpa [World.cell?, h2] using c3⟩
theorem VarsP.below {w w' : World} {P : Nat → Prop} {A : Option Addr} {l : List VI} (h : VarsP w P A l) (hb : Below w.heap.size w w') : VarsP w' P A l := h.frame fun g hg hp => ⟨hp, hb.block g hg⟩
theorem VarsP.any {w : World} {P : Nat → Prop} {A : Option Addr} {l : List VI} (h : VarsP w P A l) : VarsP w (fun _ => True) A l := h.frame fun _ _ _ => ⟨trivial, rfl⟩

theorem Var4'.set {w : World} {N : Nat} {x y z k : Value} (h : Var4' w N x y z k) (x' y' z' k' : Value) : Var4' ((((w.setCell ⟨N, 0, none⟩ x').setCell ⟨N, 1, none⟩ y').setCell ⟨N, 2, none⟩ z').setCell ⟨N, 3, none⟩ k') N x' y' z' k' := by
  simpa [Var4'] using heap_set (k := 3) (heap_set (k := 2) (heap_set (k := 1) (heap_set (k := 0) h x') y') z') k'
theorem Var4'.set3 {w : World} {N : Nat} {x y z k : Value} (h : Var4' w N x y z k) (k' : Value) : Var4' (w.setCell ⟨N, 3, none⟩ k') N x y z k' := by
  simpa [Var4'] using heap_set (k := 3) h k'
theorem var_size : (Tryz.prog.info? 34).map (·.size) = some 4 := by kernel_rfl
theorem ret_var {fn : Func} {p : Tmp} (h : fn.results = #[.cell p 34]) {R : Ending → World → Prop} {a : Act} {w : World} {g : Nat} {x y z k : Value} (hp : a.tmps.getD p undef = .pointer (some ⟨g, 0, none⟩))
    (hh : Var4' w g x y z k) (hd : a.defers = []) (hR : R (.returned (.agg #[x, y, z, k])) w) : bodyPost Tryz.prog fn R .ret a w :=
  bodyPost_ret (results_cell_row h _ _ g 34 #[x, y, z, k] (0, 0) _ hp hh Tryz.underlying34 rfl var_size) hd hR

/-- A variable that may be made already, in block n. -/
def PC (o : Option Nat) (w : World) : Prop := match o with | none => True | some n => Var4' w n (.string ⟨#[]⟩) (.string ⟨#[]⟩) (.bool false) (.slice none 0 0)
def PQ (o : Option Nat) (w : World) : Prop := match o with
  | none => True
  | some n => w.cell? ⟨n, 0, none⟩ = some (.string ⟨#[]⟩) ∧ w.cell? ⟨n, 1, none⟩ = some (.string ⟨#[]⟩) ∧ w.cell? ⟨n, 2, none⟩ = some (.bool false) ∧ w.cell? ⟨n, 3, none⟩ = some (.slice none 0 0) ∧ w.frozen? ⟨n, 0, none⟩ = false ∧ w.frozen? ⟨n, 1, none⟩ = false ∧ w.frozen? ⟨n, 2, none⟩ = false ∧ w.frozen? ⟨n, 3, none⟩ = false
theorem PC.below {o : Option Nat} {w w' : World} (h : PC o w) (hb : Below w.heap.size w w') : PC o w' := by
  cases o with
  | none => trivial
  | some n => exact Var4'.below h hb
theorem PC.q {o : Option Nat} {w : World} (h : PC o w) : PQ o w := by
  cases o with
  | none => trivial
  | some n => exact ⟨Var4'.a0 h, Var4'.a1 h, Var4'.a2 h, Var4'.a3 h, Var4'.free h 0, Var4'.free h 1, Var4'.free h 2, Var4'.free h 3⟩

set_option maxRecDepth 100000 in
set_option maxHeartbeats 4000000 in
theorem copied_any (x : VI) (w : World) (h : ItemP w (fun _ => True) x) :
    Calls Tryz.prog 32 #[encVI x] w fun e w' => ∃ y : VI, e = .returned (encVI y) ∧ y.v = x.v ∧ ItemP w' (PS w' w.heap.size) y ∧ Below w.heap.size w w' := by
  obtain ⟨⟨nm, tx, ar, ls⟩, A, c⟩ := x
  obtain ⟨hT, hS⟩ := h
  have s1 := hS.nm; have s2 := hS.tx; have s3 := hS.ls; have s4 := hS.each
  dsimp only at s1 s2 s3 s4 hT
  have cN := fun W => clone_any nm (by omega) W
  have cT := fun W => clone_any tx (by omega) W
  have hal : Below w.heap.size w ((w.alloc (.cells #[encS nm, encS tx, .bool ar, .slice A ls.length c] 34)).alloc (.cells #[encS [], encS [], .bool false, .slice none 0 0] 34)) := ((Below.refl _ _).alloc (Nat.le_refl _) _).alloc (by simp) _
  have hX0 : Var4' (w.alloc (.cells #[encS nm, encS tx, .bool ar, .slice A ls.length c] 34)) w.heap.size (encS nm) (encS tx) (.bool ar) (.slice A ls.length c) := heap_alloc_new _ _
  have hX := hX0.below ((Below.refl _ _).alloc (Nat.le_refl _) (.cells #[encS [], encS [], .bool false, .slice none 0 0] 34))
  have hR : Var4' ((w.alloc (.cells #[encS nm, encS tx, .bool ar, .slice A ls.length c] 34)).alloc (.cells #[encS [], encS [], .bool false, .slice none 0 0] 34)) (w.heap.size + 1) (encS []) (encS []) (.bool false) (.slice none 0 0) := by
    have := heap_alloc_new (w.alloc (.cells #[encS nm, encS tx, .bool ar, .slice A ls.length c] 34)) (.cells #[encS [], encS [], .bool false, .slice none 0 0] 34)
    unfold Var4'
    simpa using this
  clear hX0
  have hs0 : ((w.alloc (.cells #[encS nm, encS tx, .bool ar, .slice A ls.length c] 34)).alloc (.cells #[encS [], encS [], .bool false, .slice none 0 0] 34)).heap.size = w.heap.size + 2 := by simp
  obtain ⟨w0, hw0⟩ : ∃ w0, (w.alloc (.cells #[encS nm, encS tx, .bool ar, .slice A ls.length c] 34)).alloc (.cells #[encS [], encS [], .bool false, .slice none 0 0] 34) = w0 := ⟨_, rfl⟩
  have HW0 := hid hw0
  rw [hw0] at hal hX hR hs0
  have HS0 := hid hs0
  have HSV := hid hS
  obtain ⟨i0, hi, hz0, hz1, hz2⟩ := info_parts info_str
  clear hw0 hs0
  have bt0 : ∀ w1, Below w0.drew.heap.size w0.drew w1 → Below w0.heap.size w0 w1 := fun w1 h => (Below.refl _ w0).drew.trans h
  have hza : Below w0.heap.size w0 (w0.alloc (.cells #[.string ⟨#[]⟩, .string ⟨#[]⟩, .bool false, .slice none 0 0] 34)) := (Below.refl _ _).alloc (Nat.le_refl _) _
  have bta : ∀ w1, Below (w0.alloc (.cells #[.string ⟨#[]⟩, .string ⟨#[]⟩, .bool false, .slice none 0 0] 34)).drew.heap.size (w0.alloc (.cells #[.string ⟨#[]⟩, .string ⟨#[]⟩, .bool false, .slice none 0 0] 34)).drew w1 → Below w0.heap.size w0 w1 ∧ PC (some w0.heap.size) w1 := fun w1 h =>
    ⟨hza.drew.trans (h.mono hza.size), (h.block _ (by show _ < (w0.alloc _).heap.size; simp)).trans (heap_alloc_new w0 _)⟩
  have a0 := hX.a0; have a1 := hX.a1; have a2 := hX.a2
  go_enter Tryz.func32, Tryz.ntmps32
  go_wp2_with fail
  simp only [encS] at HW0 hX hR a0 a1 a2
  rw [HW0.out]
  have btz : ∀ w1 w2 : World, Below (w1.alloc (.cells #[.string ⟨#[]⟩, .string ⟨#[]⟩, .bool false, .slice none 0 0] 34)).heap.size (w1.alloc (.cells #[.string ⟨#[]⟩, .string ⟨#[]⟩, .bool false, .slice none 0 0] 34)) w2 → Below w1.heap.size w1 w2 ∧ PC (some w1.heap.size) w2 := fun w1 w2 h =>
    ⟨((Below.refl _ w1).alloc (Nat.le_refl _) _).trans (h.mono (by simp)), (h.block _ (by simp)).trans (heap_alloc_new w1 _)⟩
  have pc0 : ∀ w1, PC none w1 := fun _ => trivial
  have hn0 := Nat.ne_of_gt hX.lt
  go_region_held3 (fun w' => w'.cell? ⟨w.heap.size, 0, none⟩ = some (.string ⟨nm.toArray⟩) ∧ w'.cell? ⟨w.heap.size, 1, none⟩ = some (.string ⟨tx.toArray⟩) ∧ w'.cell? ⟨w.heap.size, 2, none⟩ = some (.bool ar)) (go_keep) (first
    | (go_at_call 56; (with_reducible refine (cN w0.drew).mono ?_); rintro e w1 ⟨rfl, hb1⟩; have hB1 := bt0 _ hb1; have hC1 := pc0 w1; have hX1 := hX.below hB1; have hn1 := Nat.ne_of_gt hX1.lt; have e0 := hX1.a0; have e1 := hX1.a1; have e2 := hX1.a2)
    | (go_at_call 56; (with_reducible refine (cN (w0.alloc (.cells #[.string ⟨#[]⟩, .string ⟨#[]⟩, .bool false, .slice none 0 0] 34)).drew).mono ?_); rintro e w1 ⟨rfl, hb1⟩; obtain ⟨hB1, hC1⟩ := bta _ hb1; have hX1 := hX.below hB1; have hn1 := Nat.ne_of_gt hX1.lt; have e0 := hX1.a0; have e1 := hX1.a1; have e2 := hX1.a2)
    | (go_at_call 56; (with_reducible refine (cT w1).mono ?_); rintro e w2 ⟨rfl, hB2⟩; have hC2 := hC1.below hB2; have hB3 := hB1.trans (hB2.mono hB1.size); have hX2 := hX.below hB3; have hn2 := Nat.ne_of_gt hX2.lt; have hQ2 := hC2.q; dsimp only [PQ] at hQ2; have e0 := hX2.a0; have e1 := hX2.a1; have e2 := hX2.a2)
    | (go_at_call 56; (with_reducible refine (cT (w1.alloc (.cells #[.string ⟨#[]⟩, .string ⟨#[]⟩, .bool false, .slice none 0 0] 34))).mono ?_); rintro e w2 ⟨rfl, hb2⟩; obtain ⟨hB2, hC2⟩ := btz _ _ hb2; have hB3 := hB1.trans (hB2.mono hB1.size); have hX2 := hX.below hB3; have hn2 := Nat.ne_of_gt hX2.lt; have hQ2 := hC2.q; dsimp only [PQ] at hQ2; have e0 := hX2.a0; have e1 := hX2.a1; have e2 := hX2.a2))
  · obtain ⟨C, hC⟩ : ∃ C, w2.heap.size = C := ⟨_, rfl⟩
    have hCv : Var4' (w2.alloc (.cells #[.string ⟨nm.toArray⟩, .string ⟨tx.toArray⟩, .bool ar, .slice none 0 0] 34)) w2.heap.size (.string ⟨nm.toArray⟩) (.string ⟨tx.toArray⟩) (.bool ar) (.slice none 0 0) := heap_alloc_new _ _
    have hB5 : Below w0.heap.size w0 (w2.alloc (.cells #[.string ⟨nm.toArray⟩, .string ⟨tx.toArray⟩, .bool ar, .slice none 0 0] 34)) := hB3.alloc hB3.size _
    have hCN : w0.heap.size ≤ w2.heap.size := hB3.size
    rw [hC] at hCv hCN ⊢
    generalize w2.alloc (.cells #[.string ⟨nm.toArray⟩, .string ⟨tx.toArray⟩, .bool ar, .slice none 0 0] 34) = w5 at *
    clear hC hB3 hB2 hB1 hC1 hC2 hX1 hX2 e0 e1 e2 hQ2 hn1 hn2 cN cT btz bta bt0 hza pc0 hn0
    have hX5 := hX.below hB5
    have z3 := hX5.a3
    clear a0 a1 a2
    go_wp2_with fail
    clear z3 hX5
    go_loopw [18] (fun i wr => ∃ (k : Nat) (v : Value), k ≤ ls.length ∧ i = .int .i64 k ∧ Below w0.heap.size w0 wr ∧ Var4' wr C (.string ⟨nm.toArray⟩) (.string ⟨tx.toArray⟩) (.bool ar) v ∧ wr.ownsRow w0.heap.size 9 1 v k ((ls.map encS).take k)) (fun i _ => ls.length - (intOf i).toNat)
    case atStart => exact ⟨0, _, Nat.zero_le _, rfl, hB5, hCv, World.ownsRow_nil _ _ _ _⟩
    case round =>
      obtain ⟨k, v, hk, rfl, hBr, hCr, hor⟩ := hrel
      have c3 := hCr.a3
      by_cases hlt : k < ls.length
      · obtain ⟨g, o, rfl, -, hcx⟩ := hT k hlt
        have hcx := cell_below hBr (cell_below hal hcx)
        have cC := fun W => clone_any ls[k] (by have := s4 _ (List.getElem_mem hlt); omega) W
        have HT : Hid ((ls.map encS).take k ++ [encS ls[k]] = (ls.map encS).take (k + 1)) := hid (by rw [List.take_succ_eq_append_getElem (by simpa using hlt), List.getElem_map])
        have hCl := hCr.lt
        have hne : v.ownBlock ≠ some C := fun he => by
          rcases hor.2 with ⟨rfl, _⟩ | ⟨g', cap, cur, rfl, _, hh, _⟩
          · simp [Value.ownBlock] at he
          · obtain rfl : g' = C := by simpa [Value.ownBlock] using he
            have hh2 : wr.heap[g']? = _ := hCr
            rw [hh2] at hh; cases hh
        generalize ls[k] = lk at *
        clear hT s4 hB5 hCv hR hX hS HW0
        go_wp2_with fail
        go_region_law (first
          | (go_simp; go_at_call 56; refine (cC _).mono ?_; rintro e w6 ⟨rfl, hb6⟩; have hown6 := own_below (w := wr.drew) hor hb6; have hC6 : Var4' w6 C _ _ _ _ := (hb6.block C hCl).trans hCr; have hl6 := hC6.lt; have c6 := hC6.a3)
          | (refine step_append_lies _ (by rfl) _ _ _ (by rfl) w0.heap.size 9 i0 (.string .empty) 1 16 Tryz.underlying32 hi hz0 hz1 hz2 rfl (by omega) v k ((ls.map encS).take k) (by rfl) ((hown6.alloc _)) ⟨w6.heap.size, 0, none⟩ 1 1 [encS lk] (by rfl) (by rfl) (World.news_of_block (cs := #[encS lk]) (t := 9) (fr := (0, 0)) (heap_alloc_new w6 _)) (by simp [Value.oneCell']) (by omega) (by unfold maxLen; omega) (by omega) (by have h1 := hb6.size; have h2 := hBr.size; simp at h1; simp; omega) (w6.heap.size + 1) (by simp) ?_; intro gg cap w7 hown7 hg hat hlt7; have hC7 : Var4' w7 C _ _ _ _ := (hg.block C (by simp; omega) (fun e => hne e.symm)).trans ((Below.heap_alloc w6 _ C hl6).trans hC6); have c7 := hC7.a3; have f7 := hC7.free 3))
        all_goals
          have hB6 : Below w0.heap.size w0 w6 := hBr.trans (((Below.refl _ wr).drew.trans hb6).mono hBr.size)
          have hB7 : Below w0.heap.size w0 w7 := (hB6.alloc hB6.size _).grown hg (by have := hB6.size; simp; omega) (fun j e => (hown6.lt j e).1)
          have hB8 : Below w0.heap.size w0 (w7.setCell ⟨C, 3, none⟩ (.slice (some ⟨gg, 0, none⟩) (k + 1) cap)) := hB7.setCell (p := ⟨C, 3, none⟩) hCN _
          have hgC : gg ≠ C := fun e => by
            subst e
            rcases hown7.2 with ⟨hv, _⟩ | ⟨g', cap', cur, hv, _, hb, _⟩
            · cases hv
            · cases hv
              have hh2 : w7.heap[gg]? = _ := hC7
              rw [hh2] at hb; cases hb
          have hown8 : (w7.setCell ⟨C, 3, none⟩ (.slice (some ⟨gg, 0, none⟩) (k + 1) cap)).ownsRow w0.heap.size 9 1 (.slice (some ⟨gg, 0, none⟩) (k + 1) cap) (k + 1) ((ls.map encS).take (k + 1)) := by
            rw [← HT.out]
            exact own_kept hown7 fun g hgv => by
              obtain rfl : gg = g := by simpa [Value.ownBlock] using hgv
              exact Below.heap_setCell _ _ _ _ hgC
          have HF := hid (And.intro hB8 (And.intro (hC7.set3 (.slice (some ⟨gg, 0, none⟩) (k + 1) cap)) hown8))
          clear hown8 hgC hB8 hB7 hB6 hown7 hg hown6 hC6 hC7 c6 c7 f7 hat hor hCr c3 hBr
          go_wp2_with fail
          go_roundw
          case rel => exact ⟨k + 1, _, by omega, by go_num, HF.out.1, HF.out.2.1, HF.out.2.2⟩
          case measure => simp [intOf]; omega
      · obtain rfl : k = ls.length := by omega
        rw [List.take_of_length_le (by simp)] at hor
        obtain ⟨ao, n', cap, rfl⟩ := own_slice hor
        have hn' : n' = ls.length := by
          rcases hor.2 with ⟨hv, h0⟩ | ⟨g', cap', cur, hv, _⟩
          · cases hv; omega
          · cases hv; rfl
        subst hn'
        have hTx := TextsP.of_own hor
        have hRr := hR.below hBr
        have d0 := hCr.a0; have d1 := hCr.a1; have d2 := hCr.a2
        have r0 := hRr.a0; have r1 := hRr.a1; have r2 := hRr.a2; have r3 := hRr.a3
        have f0 := hRr.free 0; have f1 := hRr.free 1; have f2 := hRr.free 2; have f3 := hRr.free 3
        have HB := hid (And.intro hBr (And.intro hTx (And.intro hRr HS0.out)))
        clear hT s4 hB5 hCv hR hX hS HW0 hor hTx hCr hBr hRr
        go_wp2_with fail
        refine ret_var rfl rfl (Var4'.set HB.out.2.2.1 _ _ _ _) rfl ⟨⟨⟨nm, tx, ar, ls⟩, ao, cap⟩, rfl, rfl, ⟨?_, HSV.out⟩, ?_⟩
        · exact TextsP.frame HB.out.2.1 fun g _ hp => by
            have h2 := heap_set4 (w := wr) (N := w.heap.size + 1) (.string ⟨nm.toArray⟩) (.string ⟨tx.toArray⟩) (.bool ar) (.slice ao ls.length cap) (i := g) (by have := HB.out.2.2.2; have := hp.1; omega)
            exact ⟨⟨by have := HB.out.2.2.2; have := hp.1; omega, by obtain ⟨cs, hcs⟩ := hp.2; exact ⟨cs, h2.trans hcs⟩⟩, h2⟩
        · exact below_set4 (hal.trans (HB.out.1.mono hal.size)) (by omega) _ _ _ _
  · obtain ⟨C, hC⟩ : ∃ C, w1.heap.size = C := ⟨_, rfl⟩
    have hCN : w0.heap.size ≤ w1.heap.size := hB1.size
    have hCv := Var4'.set (show Var4' w2 w1.heap.size _ _ _ _ from hC2) (.string ⟨nm.toArray⟩) (.string ⟨tx.toArray⟩) (.bool ar) (.slice none 0 0)
    have hB5 := below_set4 hB3 hCN (.string ⟨nm.toArray⟩) (.string ⟨tx.toArray⟩) (.bool ar) (.slice none 0 0)
    rw [hC] at hCv hCN hB5 ⊢
    generalize (((w2.setCell ⟨C, 0, none⟩ (.string ⟨nm.toArray⟩)).setCell ⟨C, 1, none⟩ (.string ⟨tx.toArray⟩)).setCell ⟨C, 2, none⟩ (.bool ar)).setCell ⟨C, 3, none⟩ (.slice none 0 0) = w5 at *
    clear hC hB3 hB2 hB1 hC1 hC2 hX1 hX2 e0 e1 e2 hQ2 hn1 hn2 cN cT btz bta bt0 hza pc0 hn0
    have hX5 := hX.below hB5
    have z3 := hX5.a3
    clear a0 a1 a2
    go_wp2_with fail
    clear z3 hX5
    go_loopw [18] (fun i wr => ∃ (k : Nat) (v : Value), k ≤ ls.length ∧ i = .int .i64 k ∧ Below w0.heap.size w0 wr ∧ Var4' wr C (.string ⟨nm.toArray⟩) (.string ⟨tx.toArray⟩) (.bool ar) v ∧ wr.ownsRow w0.heap.size 9 1 v k ((ls.map encS).take k)) (fun i _ => ls.length - (intOf i).toNat)
    case atStart => exact ⟨0, _, Nat.zero_le _, rfl, hB5, hCv, World.ownsRow_nil _ _ _ _⟩
    case round =>
      obtain ⟨k, v, hk, rfl, hBr, hCr, hor⟩ := hrel
      have c3 := hCr.a3
      by_cases hlt : k < ls.length
      · obtain ⟨g, o, rfl, -, hcx⟩ := hT k hlt
        have hcx := cell_below hBr (cell_below hal hcx)
        have cC := fun W => clone_any ls[k] (by have := s4 _ (List.getElem_mem hlt); omega) W
        have HT : Hid ((ls.map encS).take k ++ [encS ls[k]] = (ls.map encS).take (k + 1)) := hid (by rw [List.take_succ_eq_append_getElem (by simpa using hlt), List.getElem_map])
        have hCl := hCr.lt
        have hne : v.ownBlock ≠ some C := fun he => by
          rcases hor.2 with ⟨rfl, _⟩ | ⟨g', cap, cur, rfl, _, hh, _⟩
          · simp [Value.ownBlock] at he
          · obtain rfl : g' = C := by simpa [Value.ownBlock] using he
            have hh2 : wr.heap[g']? = _ := hCr
            rw [hh2] at hh; cases hh
        generalize ls[k] = lk at *
        clear hT s4 hB5 hCv hR hX hS HW0
        go_wp2_with fail
        go_region_law (first
          | (go_simp; go_at_call 56; refine (cC _).mono ?_; rintro e w6 ⟨rfl, hb6⟩; have hown6 := own_below (w := wr.drew) hor hb6; have hC6 : Var4' w6 C _ _ _ _ := (hb6.block C hCl).trans hCr; have hl6 := hC6.lt; have c6 := hC6.a3)
          | (refine step_append_lies _ (by rfl) _ _ _ (by rfl) w0.heap.size 9 i0 (.string .empty) 1 16 Tryz.underlying32 hi hz0 hz1 hz2 rfl (by omega) v k ((ls.map encS).take k) (by rfl) ((hown6.alloc _)) ⟨w6.heap.size, 0, none⟩ 1 1 [encS lk] (by rfl) (by rfl) (World.news_of_block (cs := #[encS lk]) (t := 9) (fr := (0, 0)) (heap_alloc_new w6 _)) (by simp [Value.oneCell']) (by omega) (by unfold maxLen; omega) (by omega) (by have h1 := hb6.size; have h2 := hBr.size; simp at h1; simp; omega) (w6.heap.size + 1) (by simp) ?_; intro gg cap w7 hown7 hg hat hlt7; have hC7 : Var4' w7 C _ _ _ _ := (hg.block C (by simp; omega) (fun e => hne e.symm)).trans ((Below.heap_alloc w6 _ C hl6).trans hC6); have c7 := hC7.a3; have f7 := hC7.free 3))
        all_goals
          have hB6 : Below w0.heap.size w0 w6 := hBr.trans (((Below.refl _ wr).drew.trans hb6).mono hBr.size)
          have hB7 : Below w0.heap.size w0 w7 := (hB6.alloc hB6.size _).grown hg (by have := hB6.size; simp; omega) (fun j e => (hown6.lt j e).1)
          have hB8 : Below w0.heap.size w0 (w7.setCell ⟨C, 3, none⟩ (.slice (some ⟨gg, 0, none⟩) (k + 1) cap)) := hB7.setCell (p := ⟨C, 3, none⟩) hCN _
          have hgC : gg ≠ C := fun e => by
            subst e
            rcases hown7.2 with ⟨hv, _⟩ | ⟨g', cap', cur, hv, _, hb, _⟩
            · cases hv
            · cases hv
              have hh2 : w7.heap[gg]? = _ := hC7
              rw [hh2] at hb; cases hb
          have hown8 : (w7.setCell ⟨C, 3, none⟩ (.slice (some ⟨gg, 0, none⟩) (k + 1) cap)).ownsRow w0.heap.size 9 1 (.slice (some ⟨gg, 0, none⟩) (k + 1) cap) (k + 1) ((ls.map encS).take (k + 1)) := by
            rw [← HT.out]
            exact own_kept hown7 fun g hgv => by
              obtain rfl : gg = g := by simpa [Value.ownBlock] using hgv
              exact Below.heap_setCell _ _ _ _ hgC
          have HF := hid (And.intro hB8 (And.intro (hC7.set3 (.slice (some ⟨gg, 0, none⟩) (k + 1) cap)) hown8))
          clear hown8 hgC hB8 hB7 hB6 hown7 hg hown6 hC6 hC7 c6 c7 f7 hat hor hCr c3 hBr
          go_wp2_with fail
          go_roundw
          case rel => exact ⟨k + 1, _, by omega, by go_num, HF.out.1, HF.out.2.1, HF.out.2.2⟩
          case measure => simp [intOf]; omega
      · obtain rfl : k = ls.length := by omega
        rw [List.take_of_length_le (by simp)] at hor
        obtain ⟨ao, n', cap, rfl⟩ := own_slice hor
        have hn' : n' = ls.length := by
          rcases hor.2 with ⟨hv, h0⟩ | ⟨g', cap', cur, hv, _⟩
          · cases hv; omega
          · cases hv; rfl
        subst hn'
        have hTx := TextsP.of_own hor
        have hRr := hR.below hBr
        have d0 := hCr.a0; have d1 := hCr.a1; have d2 := hCr.a2
        have r0 := hRr.a0; have r1 := hRr.a1; have r2 := hRr.a2; have r3 := hRr.a3
        have f0 := hRr.free 0; have f1 := hRr.free 1; have f2 := hRr.free 2; have f3 := hRr.free 3
        have HB := hid (And.intro hBr (And.intro hTx (And.intro hRr HS0.out)))
        clear hT s4 hB5 hCv hR hX hS HW0 hor hTx hCr hBr hRr
        go_wp2_with fail
        refine ret_var rfl rfl (Var4'.set HB.out.2.2.1 _ _ _ _) rfl ⟨⟨⟨nm, tx, ar, ls⟩, ao, cap⟩, rfl, rfl, ⟨?_, HSV.out⟩, ?_⟩
        · exact TextsP.frame HB.out.2.1 fun g _ hp => by
            have h2 := heap_set4 (w := wr) (N := w.heap.size + 1) (.string ⟨nm.toArray⟩) (.string ⟨tx.toArray⟩) (.bool ar) (.slice ao ls.length cap) (i := g) (by have := HB.out.2.2.2; have := hp.1; omega)
            exact ⟨⟨by have := HB.out.2.2.2; have := hp.1; omega, by obtain ⟨cs, hcs⟩ := hp.2; exact ⟨cs, h2.trans hcs⟩⟩, h2⟩
        · exact below_set4 (hal.trans (HB.out.1.mono hal.size)) (by omega) _ _ _ _
  · obtain ⟨C, hC⟩ : ∃ C, w0.heap.size = C := ⟨_, rfl⟩
    have hCN : w0.heap.size ≤ w0.heap.size := Nat.le_refl _
    have hCv := Var4'.set (show Var4' w2 w0.heap.size _ _ _ _ from hC2) (.string ⟨nm.toArray⟩) (.string ⟨tx.toArray⟩) (.bool ar) (.slice none 0 0)
    have hB5 := below_set4 hB3 hCN (.string ⟨nm.toArray⟩) (.string ⟨tx.toArray⟩) (.bool ar) (.slice none 0 0)
    have hCN : w0.heap.size ≤ C := by omega
    rw [hC] at hCv ⊢
    rw [show (((w2.setCell ⟨w0.heap.size, 0, none⟩ (.string ⟨nm.toArray⟩)).setCell ⟨w0.heap.size, 1, none⟩ (.string ⟨tx.toArray⟩)).setCell ⟨w0.heap.size, 2, none⟩ (.bool ar)).setCell ⟨w0.heap.size, 3, none⟩ (.slice none 0 0) = (((w2.setCell ⟨C, 0, none⟩ (.string ⟨nm.toArray⟩)).setCell ⟨C, 1, none⟩ (.string ⟨tx.toArray⟩)).setCell ⟨C, 2, none⟩ (.bool ar)).setCell ⟨C, 3, none⟩ (.slice none 0 0) by rw [hC]] at hB5
    generalize (((w2.setCell ⟨C, 0, none⟩ (.string ⟨nm.toArray⟩)).setCell ⟨C, 1, none⟩ (.string ⟨tx.toArray⟩)).setCell ⟨C, 2, none⟩ (.bool ar)).setCell ⟨C, 3, none⟩ (.slice none 0 0) = w5 at *
    clear hC hB3 hB2 hB1 hC1 hC2 hX1 hX2 e0 e1 e2 hQ2 hn1 hn2 cN cT btz bta bt0 hza pc0 hn0
    have hX5 := hX.below hB5
    have z3 := hX5.a3
    clear a0 a1 a2
    go_wp2_with fail
    clear z3 hX5
    go_loopw [18] (fun i wr => ∃ (k : Nat) (v : Value), k ≤ ls.length ∧ i = .int .i64 k ∧ Below w0.heap.size w0 wr ∧ Var4' wr C (.string ⟨nm.toArray⟩) (.string ⟨tx.toArray⟩) (.bool ar) v ∧ wr.ownsRow w0.heap.size 9 1 v k ((ls.map encS).take k)) (fun i _ => ls.length - (intOf i).toNat)
    case atStart => exact ⟨0, _, Nat.zero_le _, rfl, hB5, hCv, World.ownsRow_nil _ _ _ _⟩
    case round =>
      obtain ⟨k, v, hk, rfl, hBr, hCr, hor⟩ := hrel
      have c3 := hCr.a3
      by_cases hlt : k < ls.length
      · obtain ⟨g, o, rfl, -, hcx⟩ := hT k hlt
        have hcx := cell_below hBr (cell_below hal hcx)
        have cC := fun W => clone_any ls[k] (by have := s4 _ (List.getElem_mem hlt); omega) W
        have HT : Hid ((ls.map encS).take k ++ [encS ls[k]] = (ls.map encS).take (k + 1)) := hid (by rw [List.take_succ_eq_append_getElem (by simpa using hlt), List.getElem_map])
        have hCl := hCr.lt
        have hne : v.ownBlock ≠ some C := fun he => by
          rcases hor.2 with ⟨rfl, _⟩ | ⟨g', cap, cur, rfl, _, hh, _⟩
          · simp [Value.ownBlock] at he
          · obtain rfl : g' = C := by simpa [Value.ownBlock] using he
            have hh2 : wr.heap[g']? = _ := hCr
            rw [hh2] at hh; cases hh
        generalize ls[k] = lk at *
        clear hT s4 hB5 hCv hR hX hS HW0
        go_wp2_with fail
        go_region_law (first
          | (go_simp; go_at_call 56; refine (cC _).mono ?_; rintro e w6 ⟨rfl, hb6⟩; have hown6 := own_below (w := wr.drew) hor hb6; have hC6 : Var4' w6 C _ _ _ _ := (hb6.block C hCl).trans hCr; have hl6 := hC6.lt; have c6 := hC6.a3)
          | (refine step_append_lies _ (by rfl) _ _ _ (by rfl) w0.heap.size 9 i0 (.string .empty) 1 16 Tryz.underlying32 hi hz0 hz1 hz2 rfl (by omega) v k ((ls.map encS).take k) (by rfl) ((hown6.alloc _)) ⟨w6.heap.size, 0, none⟩ 1 1 [encS lk] (by rfl) (by rfl) (World.news_of_block (cs := #[encS lk]) (t := 9) (fr := (0, 0)) (heap_alloc_new w6 _)) (by simp [Value.oneCell']) (by omega) (by unfold maxLen; omega) (by omega) (by have h1 := hb6.size; have h2 := hBr.size; simp at h1; simp; omega) (w6.heap.size + 1) (by simp) ?_; intro gg cap w7 hown7 hg hat hlt7; have hC7 : Var4' w7 C _ _ _ _ := (hg.block C (by simp; omega) (fun e => hne e.symm)).trans ((Below.heap_alloc w6 _ C hl6).trans hC6); have c7 := hC7.a3; have f7 := hC7.free 3))
        all_goals
          have hB6 : Below w0.heap.size w0 w6 := hBr.trans (((Below.refl _ wr).drew.trans hb6).mono hBr.size)
          have hB7 : Below w0.heap.size w0 w7 := (hB6.alloc hB6.size _).grown hg (by have := hB6.size; simp; omega) (fun j e => (hown6.lt j e).1)
          have hB8 : Below w0.heap.size w0 (w7.setCell ⟨C, 3, none⟩ (.slice (some ⟨gg, 0, none⟩) (k + 1) cap)) := hB7.setCell (p := ⟨C, 3, none⟩) hCN _
          have hgC : gg ≠ C := fun e => by
            subst e
            rcases hown7.2 with ⟨hv, _⟩ | ⟨g', cap', cur, hv, _, hb, _⟩
            · cases hv
            · cases hv
              have hh2 : w7.heap[gg]? = _ := hC7
              rw [hh2] at hb; cases hb
          have hown8 : (w7.setCell ⟨C, 3, none⟩ (.slice (some ⟨gg, 0, none⟩) (k + 1) cap)).ownsRow w0.heap.size 9 1 (.slice (some ⟨gg, 0, none⟩) (k + 1) cap) (k + 1) ((ls.map encS).take (k + 1)) := by
            rw [← HT.out]
            exact own_kept hown7 fun g hgv => by
              obtain rfl : gg = g := by simpa [Value.ownBlock] using hgv
              exact Below.heap_setCell _ _ _ _ hgC
          have HF := hid (And.intro hB8 (And.intro (hC7.set3 (.slice (some ⟨gg, 0, none⟩) (k + 1) cap)) hown8))
          clear hown8 hgC hB8 hB7 hB6 hown7 hg hown6 hC6 hC7 c6 c7 f7 hat hor hCr c3 hBr
          go_wp2_with fail
          go_roundw
          case rel => exact ⟨k + 1, _, by omega, by go_num, HF.out.1, HF.out.2.1, HF.out.2.2⟩
          case measure => simp [intOf]; omega
      · obtain rfl : k = ls.length := by omega
        rw [List.take_of_length_le (by simp)] at hor
        obtain ⟨ao, n', cap, rfl⟩ := own_slice hor
        have hn' : n' = ls.length := by
          rcases hor.2 with ⟨hv, h0⟩ | ⟨g', cap', cur, hv, _⟩
          · cases hv; omega
          · cases hv; rfl
        subst hn'
        have hTx := TextsP.of_own hor
        have hRr := hR.below hBr
        have d0 := hCr.a0; have d1 := hCr.a1; have d2 := hCr.a2
        have r0 := hRr.a0; have r1 := hRr.a1; have r2 := hRr.a2; have r3 := hRr.a3
        have f0 := hRr.free 0; have f1 := hRr.free 1; have f2 := hRr.free 2; have f3 := hRr.free 3
        have HB := hid (And.intro hBr (And.intro hTx (And.intro hRr HS0.out)))
        clear hT s4 hB5 hCv hR hX hS HW0 hor hTx hCr hBr hRr
        go_wp2_with fail
        refine ret_var rfl rfl (Var4'.set HB.out.2.2.1 _ _ _ _) rfl ⟨⟨⟨nm, tx, ar, ls⟩, ao, cap⟩, rfl, rfl, ⟨?_, HSV.out⟩, ?_⟩
        · exact TextsP.frame HB.out.2.1 fun g _ hp => by
            have h2 := heap_set4 (w := wr) (N := w.heap.size + 1) (.string ⟨nm.toArray⟩) (.string ⟨tx.toArray⟩) (.bool ar) (.slice ao ls.length cap) (i := g) (by have := HB.out.2.2.2; have := hp.1; omega)
            exact ⟨⟨by have := HB.out.2.2.2; have := hp.1; omega, by obtain ⟨cs, hcs⟩ := hp.2; exact ⟨cs, h2.trans hcs⟩⟩, h2⟩
        · exact below_set4 (hal.trans (HB.out.1.mono hal.size)) (by omega) _ _ _ _
end Go.Proofs.YthgmilllinbcjaaGreatDoor
namespace Go.Proofs.YthgmilllinbcjaaGreatDoor
open Go.RowKit

theorem upon_round {P : Program} {o : Oper} {a : Act} {next : Act → World → Prop} {Q : Exit → Act → World → Prop} (l n : Nat) {r : Result Next} (h : o.upon P a next Q r) : o.uponIn (Fence.wide.inRound l) n P a next Q r := by
  have hd : (Fence.wide.inRound l).depth.isSome = true → 1 ≤ n := fun e => by cases e
  cases r with
  | ok x w' =>
    cases x with
    | enter f args => exact ⟨hd, CallsIn.inRound l (callsIn_wide.2 h)⟩
    | row row args => exact ⟨hd, fun c cs _ => by
        obtain ⟨v, w2, r, s⟩ := h c cs
        exact ⟨v, w2, r, stepsIn_wide.2 s⟩⟩
    | round l f tmps assign body => exact h.elim
    | value v => exact h
    | skip => exact h
    | defer d => exact h
    | _ => exact h.elim
  | halt x w' => cases x <;> first | exact h | exact h.elim

theorem any_in_round {P : Program} {md : Region.Mode} {ops : Array Oper} {Q : Exit → Act → World → Prop} (l n : Nat) (hnd : ∀ o ∈ ops, ∀ c, o.op ≠ .defer c)
    (hQ : ¬ LetsOut Q) :
    ∀ (fuel : Nat) (listed : Array Bool) (a : Act) (w : World), wpAny P md ops Q fuel listed a w → wpAnyIn (Fence.wide.inRound l) n P md ops Q fuel listed a w
  | 0, _, _, _, h => h
  | fuel + 1, listed, a, w, h => ⟨h.1, fun i hi => by
    have h2 := h.2 i hi
    have ih := fun a w => any_in_round (P := P) (md := md) l n hnd hQ fuel (listed.setIfInBounds i true) a w
    unfold wpOp at h2
    unfold wpOpIn
    cases ho : ops[i]? with
    | none => rw [ho] at h2; exact ih _ _ h2
    | some o =>
      rw [ho] at h2
      have hmem : o ∈ ops := by obtain ⟨hh, e⟩ := Array.getElem?_eq_some_iff.1 ho; rw [← e]; exact Array.getElem_mem hh
      dsimp only at h2 ⊢
      by_cases hw : Region.wanted o (yielded ops a.tmps) = true
      · rw [if_pos hw] at h2 ⊢
        rcases h2 with h2 | ⟨_, h2⟩
        · refine ⟨fun _ _ => trivial, ?_⟩
          have h3 := Oper.wp_mono ih h2
          rw [show (Fence.wide.inRound l).round = some l from rfl, Oper.semAt_eq (some l) _ o (hnd o hmem)]
          exact upon_round l n h3
        · exact absurd h2 hQ
      · rw [if_neg hw] at h2 ⊢
        exact ⟨fun _ _ => trivial, ih _ _ h2⟩⟩

theorem region_in_round {P : Program} {id : Nat} {ops : Array Oper} {Q : Exit → Act → World → Prop} {a : Act} {w : World} (l n : Nat) (hm : P.follows .mixedOrders = true) (hnd : ∀ o ∈ ops, ∀ c, o.op ≠ .defer c)
    (hQ : ¬ LetsOut Q)
    (S : World → Prop) (h : wpAnyH P .any ops Q S ops.size (Array.replicate ops.size false) a w.drew) : (Code.region id ops true).wpIn (Fence.wide.inRound l) n P Q a w :=
  wpIn_region_any hm (any_in_round l n hnd hQ _ _ _ _ (wpAny_of_held _ _ _ _ h))
end Go.Proofs.YthgmilllinbcjaaGreatDoor
namespace Go.Proofs.YthgmilllinbcjaaGreatDoor
open Go.RowKit

/-- A block that an iterator may turn: a walk's, or one of bools. -/
def looseW : Obj → Bool
  | .cells _ t _ => t == 4
  | o => o.isWalk
/-- A block that a range over a function may turn, between two rounds. -/
def looseO : Obj → Bool
  | .cells _ t _ => t == 4
  | _ => true
theorem looseW_O {o : Obj} (h : looseW o = true) : looseO o = true := by cases o <;> first | exact h | rfl
def AbidesB {β : Type} (B : Nat) (J : β → World → Prop) : Prop := ∀ s X Y row, J s X → X.grownBy Y row → (∀ r, row = some r → B ≤ r ∧ ∃ o : Obj, X.heap[r]? = some o ∧ looseW o = true) → J s Y
def OwnB {β : Type} (B : Nat) (I : β → World → Prop) : Prop := ∀ s X Y row, I s X → X.grownBy Y row → (∀ r, row = some r → B ≤ r ∧ ∃ o : Obj, X.heap[r]? = some o ∧ looseO o = true) → I s Y
theorem OwnB.put {β : Type} {B : Nat} {I : β → World → Prop} (h : OwnB B I) {s : β} {X : World} {l : Nat} {o : Obj} (o' : Obj) (hs : I s X) (hB : B ≤ l) (hl : X.heap[l]? = some o) (ho : o.isCells = false) : I s (X.putObj l o') :=
  h s X _ (some l) hs (grownBy_putObj' X l o') (fun r e => by cases e; exact ⟨hB, o, hl, by cases o <;> first | (cases ho; done) | rfl⟩)
theorem OwnB.alloc {β : Type} {B : Nat} {I : β → World → Prop} (h : OwnB B I) {s : β} {X : World} (o : Obj) (hs : I s X) : I s (X.alloc o) := h s X _ none hs (World.grownBy_alloc X o none) (fun r e => by cases e)
/-- The iterator's word: it hands out all, one by one; a round keeps Kp. -/
def SeqB {α : Type} (F : Fence) (n : Nat) (P : Program) (gf : Nat) (lb : Array Value) (enc : α → Value) (Kp : World → World → Prop) (S : List α → Prop) (N : Nat) (w0 : World) : Prop :=
  ∀ (l : Nat) (J : List α → World → Prop) (W : World), Below w0.heap.size w0 W → AbidesB W.heap.size J →
    (∀ pre x W1, J pre W1 → pre.length < N → YieldAt F (n - 1) P l #[enc x] W1 fun e W' => e = .returned (.bool true) ∧ J (pre ++ [x]) W' ∧ Kp W1 W') →
    J [] W → CallsIn F n P gf (#[.func (.yield l) #[] #[]] ++ lb) W fun e W' => (∃ v, e = .returned v) ∧ ∃ xs, S xs ∧ J xs W'
theorem SeqB.of_stops {α : Type} {F : Fence} {n : Nat} {P : Program} {gf : Nat} {lb : Array Value} {enc : α → Value} {Kp : World → World → Prop} {S Sp : List α → Prop} {N : Nat} {w0 : World} (h : SeqStopsK F n P gf lb (fun x => #[enc x]) Kp S Sp N w0) : SeqB F n P gf lb enc Kp S N w0 := fun l J W hW hJ hY h0 => by
  refine (h l J (fun _ _ => False) W hW (fun s X Y row hs hg hr => hJ s X Y row hs hg fun r e => by
    obtain ⟨hB, o, ho, hw⟩ := hr r e
    exact ⟨hB, o, ho, by cases o <;> first | exact hw | (cases hw; done)⟩) (fun _ _ _ _ hs _ _ => hs) (fun pre x W1 hj hl => ?_) h0).mono ?_
  · obtain ⟨fn, tmps, assign, body, hy, hR⟩ := hY pre x W1 hj hl
    exact ⟨fn, tmps, assign, body, hy, hR.mono (fun e w' hr => .inl hr)⟩
  · rintro e W' ⟨hv, ⟨xs, hS, hJ'⟩ | ⟨_, _, hf⟩⟩
    · exact ⟨hv, xs, hS, hJ'⟩
    · exact hf.elim

/-- The two blocks of book-keeping, at D and D + 1. -/
def Books (D : Nat) (r : Loop) (W : World) : Prop := W.heap[D]? = some (.deferred (some [])) ∧ W.heap[D + 1]? = some (.loop r)

theorem Books.grown {D : Nat} {r : Loop} {A B : World} {row : Option Nat} (h : Books D r A) (hg : A.grownBy B row) (hr : ∀ k, row = some k → ∃ o : Obj, A.heap[k]? = some o ∧ o.isWalk = true) : Books D r B :=
  ⟨(grownBy_keeps hg hr h.1 rfl).trans h.1, (grownBy_keeps hg hr h.2 rfl).trans h.2⟩
theorem Books.keeps {D : Nat} {r : Loop} {A B : World} (h : Books D r A) (k : KeepsFrom D A B) : Books D r B :=
  ⟨k.same _ _ (Nat.le_refl _) h.1 rfl, k.same _ _ (by omega) h.2 rfl⟩
theorem Books.put {D : Nat} {r r' : Loop} {A : World} (h : Books D r A) : Books D r' (A.putObj (D + 1) (.loop r')) :=
  ⟨(World.putObj_heap_other (by omega)).trans h.1, World.putObj_heap_same (Array.getElem?_eq_some_iff.1 h.2).1⟩

theorem range_b {α : Type} {F : Fence} {n : Nat} {P : Program} {w : World} {g : Operand} {ps : Array Tmp} {assign body : Code} {Q : Exit → Act → World → Prop} {a : Act}
    (hro : F.round = none) (h1 : 1 ≤ n) {gf : Nat} {lb : Array Value} (hg : a.eval g = .func (.func gf) #[] lb) (hFg : F.fn gf) (eg : ∀ args w, (callFunc gf args).run P w = .ok (.enter gf args) w)
    {enc : α → Value} {Kp : World → World → Prop} {S : List α → Prop} {N : Nat} {w0 : World} (hseq : SeqB F (n - 1) P gf lb enc Kp S N w0)
    (hKt : ∀ {A B C : World}, Kp A B → Kp B C → Kp A C) (hKb : ∀ (W : World) (l : Nat) (o o' : Obj), w.heap.size ≤ l → W.heap[l]? = some o → o.isCells = false → o.isWalk = false → Kp W (W.putObj l o')) (hb0 : Below w0.heap.size w0 w) (hps : 1 = ps.size)
    (I : List α → World → Prop) (hI : OwnB w.heap.size I) (h0 : I [] w) (Ax : List α → α → Act → World → Prop) (hAx : ∀ pre x a', OwnB w.heap.size (fun (_ : Unit) W => Ax pre x a' W))
    (hassign : ∀ (l : Nat) (pre : List α) (x : α) (W : World) (K : Act → World → Prop), I pre W → (∀ a' W', KeepsFrom w.heap.size W W' → Kp W W' → I pre W' → Ax pre x a' W' → K a' W') →
      assign.wpIn (F.inRound l) (n - 1 - 1) P (Exit.then K (fun _ _ _ => False)) { tmps := (ps.zip #[enc x]).foldl (fun t (p, v) => t.setIfInBounds p v) a.tmps, defers := [] } W)
    (hbody : ∀ (l : Nat) (pre : List α) (x : α) (a' : Act) (W : World), I pre W → Ax pre x a' W → pre.length < N → body.wpIn (F.inRound l) (n - 1 - 1) P (ownPostG w.heap.size Kp I (fun _ _ _ => False) (pre ++ [x]) W) a' W)
    (hdone : ∀ (xs : List α) (W : World), S xs → I xs W → W.heap[w.heap.size]? = some (.deferred (some [])) → Q .normal { a with defers := { target := .collected w.heap.size, args := #[] } :: a.defers } W) :
    (Code.rangeFunc g ps assign body).wpIn F n P Q a w := by
  refine wpIn_rangeFunc fun fn hfn => ?_
  rw [hro]
  obtain ⟨lp, hlp⟩ : ∃ lp : LoopState → Loop, lp = fun st => { state := st, pending := none, fn, tmps := a.tmps, params := ps, assign, body, defers := w.heap.size } := ⟨_, rfl⟩
  obtain ⟨V, hV⟩ : ∃ V, (w.alloc (.deferred (some []))).alloc (.loop (lp .ready)) = V := ⟨_, rfl⟩
  have bV : Books w.heap.size (lp .ready) V := by
    rw [← hV]; exact ⟨(Below.heap_alloc _ _ _ (by simp)).trans (World.alloc_heap_new w _), by have := World.alloc_heap_new (w.alloc (.deferred (some []))) (.loop (lp .ready)); rwa [World.size_alloc] at this⟩
  have iV : I [] V := by rw [← hV]; exact hI.alloc _ (hI.alloc _ h0)
  have lV : Below w0.heap.size w0 V := by rw [← hV]; exact hb0.trans ((((Below.refl _ w).alloc (Nat.le_refl _) _).alloc (by simp) _).mono hb0.size)
  have sV : w.heap.size ≤ V.heap.size := by rw [← hV]; simp; omega
  refine ⟨w.heap.size + 1, [{ target := .collected w.heap.size, args := #[] }], V, { target := .fn (.func gf) lb, args := #[.func (.yield (w.heap.size + 1)) #[] #[]] }, V, gf,
    #[.func (.yield (w.heap.size + 1)) #[] #[]] ++ lb, V, by rw [← hV, hlp]; exact run_enterLoop_outer _ _ _ _ _, by simp only [resolve, hg]; simp [go_sem], fun f' hf' => by simp [Target.leads] at hf'; subst hf'; exact hFg, by simp [invoke, go_sem, eg], fun _ => h1, ?_⟩
  refine (hseq (w.heap.size + 1) (fun pre W => I pre W ∧ Books w.heap.size (lp .ready) W) V lV ?abides ?one ⟨iV, bV⟩).mono ?done
  case abides =>
    intro s A B row hs hg' hr
    exact ⟨hI s A B row hs.1 hg' (fun r e => by
      obtain ⟨hB, o, ho, hw⟩ := hr r e
      exact ⟨by omega, o, ho, looseW_O hw⟩), ⟨(hg'.block _ (Array.getElem?_eq_some_iff.1 hs.2.1).1 (fun e => by obtain ⟨_, o, ho, hw⟩ := hr _ e.symm; rw [hs.2.1] at ho; cases ho; cases hw)).trans hs.2.1,
        (hg'.block _ (Array.getElem?_eq_some_iff.1 hs.2.2).1 (fun e => by obtain ⟨_, o, ho, hw⟩ := hr _ e.symm; rw [hs.2.2] at ho; cases ho; cases hw)).trans hs.2.2⟩⟩
  case one =>
    rintro pre x W ⟨hi, hb⟩ hlen
    have hy := run_yield (P := P) (args := #[enc x]) hb.2 (by rw [hlp]; exact hps)
    rw [hlp] at hy
    refine ⟨fn, _, assign, body, hy, roundIn_of_wpIn hfn (hassign _ pre x W _ hi fun a' U kf kp hi' hax => ?_)⟩
    have hb1 := hb.keeps kf
    have hb2 : Books w.heap.size { lp .ready with state := .busy } (U.putObj (w.heap.size + 1) (.loop { lp .ready with state := .busy })) := hb1.put
    have hnc : ∀ {β : Type} {G : β → World → Prop} {s : β}, OwnB w.heap.size G → G s U → G s (U.putObj (w.heap.size + 1) (.loop { lp .ready with state := .busy })) := fun hG hs => hG.put _ hs (by omega) hb1.2 rfl
    refine ⟨_, run_beginRound hb1.2 (by rw [hlp]), wpIn_mono (hbody _ pre x a' _ (hnc hI hi') (hnc (s := ()) (hAx pre x a') hax) hlen) ?_⟩
    rintro e a3 U3 hp
    cases e with
    | normal =>
      obtain ⟨k3, kp3, hi3⟩ := hp
      have hb3 := hb2.keeps k3
      have hr := run_endRound (P := P) none hb3.2
      have hb4 : Books w.heap.size (lp .ready) (U3.putObj (w.heap.size + 1) (.loop (lp .ready))) := hb3.put
      rw [hlp] at hr
      rw [hlp] at hb4 hb3
      refine ⟨_, _, hr, rfl, ⟨hI.put _ hi3 (by omega) hb3.2 rfl, ?_⟩, hKt kp (hKt (hKt (hKb _ _ _ _ (by omega) hb1.2 rfl rfl) kp3) (hKb _ _ _ _ (by omega) hb3.2 rfl rfl))⟩
      rw [hlp]
      exact hb4
    | ret => exact hp.2.elim
    | exit id => exact hp.2.elim
    | goto t => exact hp.2.elim
    | panic ch => exact hp.elim
    | outgrown => exact hp.elim
  case done =>
    rintro e W2 ⟨⟨v, rfl⟩, xs, hS, hi, hb⟩
    have hr := run_endLoop (P := P) hb.2 (by rw [hlp]; simp)
    rw [hlp] at hr
    exact ⟨none, _, hr, hdone xs _ hS (hI.put _ hi (by omega) hb.2 rfl) ((World.putObj_heap_other (by omega)).trans hb.1)⟩
end Go.Proofs.YthgmilllinbcjaaGreatDoor
namespace Go.Proofs.YthgmilllinbcjaaGreatDoor
open Go.RowKit Go.Shelf
open Go.Lib (hid)

attribute [local go_sem] Oper.semAt_some

/-- What a round of copies never turns: all but lists of variables, and what is neither cells nor a walk. -/
def fineI : Obj → Bool
  | .cells _ t _ => t != 25 && t != 34
  | o => o.isWalk
structure KpC (n₀ : Nat) (A B : World) : Prop where
  below : Below n₀ A B
  fine : ∀ (k : Nat) (o : Obj), A.heap[k]? = some o → fineI o = true → B.heap[k]? = some o
theorem KpC.t {n₀ : Nat} {A B C : World} (h : KpC n₀ A B) (k : KpC n₀ B C) : KpC n₀ A C := ⟨h.below.trans k.below, fun i o hi hf => k.fine i o (h.fine i o hi hf) hf⟩
theorem KpC.b {n₀ : Nat} {w : World} (hn : n₀ ≤ w.heap.size) (W : World) (l : Nat) (o o' : Obj) (hl : w.heap.size ≤ l) (h : W.heap[l]? = some o) (hc : o.isCells = false) (hw : o.isWalk = false) : KpC n₀ W (W.putObj l o') :=
  ⟨belowK_b hn W l o o' hl h hc hw, fun k o2 hk hf => (World.putObj_heap_other (by
    intro e; subst e
    rw [h] at hk; cases hk
    have : fineI o = false := by cases o <;> first | (cases hc; done) | exact hw
    rw [this] at hf; cases hf)).trans hk⟩
theorem KpC.of_below {n₀ : Nat} {W W' : World} (h : Below W.heap.size W W') (hn : n₀ ≤ W.heap.size) : KpC n₀ W W' := ⟨h.mono hn, fun k _ hk _ => (h.block k (lt_of_block hk)).trans hk⟩

/-- A variable that is handed out, whose list lies in memory. -/
abbrev Itm (w : World) := {x : VI // ItemP w (fun _ => True) x}
def cellsV (x : VI) : List Value := [.string ⟨x.v.nm.toArray⟩, .string ⟨x.v.tx.toArray⟩, .bool x.v.ar, .slice x.A x.v.ls.length x.c]
theorem info_var : (Tryz.prog.info? 34).map (fun i => (i.zero, i.size, i.bytes)) = some (some (.agg #[.string .empty, .string .empty, .bool false, .slice none 0 0]), 4, 64) := by kernel_rfl
/-- The list so far, in the variable Bx. -/
def RowI (N Bx : Nat) (vs : List V) (W : World) : Prop :=
  ∃ (v : Value) (ys : List VI), W.heap[Bx]? = some (.cells #[v] 25 (0, 0)) ∧ W.ownsRow N 34 4 v ys.length (ys.flatMap cellsV) ∧ ys.map (·.v) = vs ∧ ∀ y ∈ ys, ItemP W (PS W N) y
theorem blk_kept {X Y : World} {row : Option Nat} (hg : X.grownBy Y row) (hr : ∀ r, row = some r → ∃ o : Obj, X.heap[r]? = some o ∧ o.isCells = false) {k : Nat} {cs : Array Value} {t : TypeId} {fz : Nat × Nat} (h : X.heap[k]? = some (.cells cs t fz)) : Y.heap[k]? = some (.cells cs t fz) :=
  (hg.block k (lt_of_block h) (by intro e; obtain ⟨o, ho, hc⟩ := hr k e.symm; rw [h] at ho; cases ho; cases hc)).trans h
theorem ItemP.cells {X Y : World} {N : Nat} (hk : ∀ (k : Nat) (cs : Array Value), X.heap[k]? = some (.cells cs 9 (0, 0)) → Y.heap[k]? = some (.cells cs 9 (0, 0))) {y : VI} (h : ItemP X (PS X N) y) : ItemP Y (PS Y N) y :=
  h.frame fun g _ hp => by
    obtain ⟨h1, cs, h2⟩ := hp
    exact ⟨⟨h1, cs, hk g cs h2⟩, (hk g cs h2).trans h2.symm⟩
theorem own4_kept {w w' : World} {N n : Nat} {v : Value} {xs : List Value} (h : w.ownsRow N 34 4 v n xs) (hb : ∀ g, v.ownBlock = some g → w'.heap[g]? = w.heap[g]?) : w'.ownsRow N 34 4 v n xs := by
  refine ⟨h.1, ?_⟩
  rcases h.2 with h0 | ⟨g, cap, cur, hv, h1, h2, h3⟩
  · exact .inl h0
  · exact .inr ⟨g, cap, cur, hv, h1, (hb g (by rw [hv]; rfl)).trans h2, h3⟩
theorem blk_keptB {X Y : World} {row : Option Nat} (hg : X.grownBy Y row) (hr : ∀ r, row = some r → ∃ o : Obj, X.heap[r]? = some o ∧ looseO o = true) {k : Nat} {cs : Array Value} {t : TypeId} {fz : Nat × Nat} (h : X.heap[k]? = some (.cells cs t fz)) (ht : (t == 4) = false) : Y.heap[k]? = some (.cells cs t fz) :=
  (hg.block k (lt_of_block h) (by
    intro e
    obtain ⟨o, ho, hc⟩ := hr k e.symm
    rw [h] at ho; cases ho
    have hc : (t == 4) = true := hc
    rw [ht] at hc; cases hc)).trans h
theorem OwnB.and {β : Type} {B : Nat} {I J : β → World → Prop} (h : OwnB B I) (k : OwnB B J) : OwnB B (fun s W => I s W ∧ J s W) := fun s X Y row hs hg hr => ⟨h s X Y row hs.1 hg hr, k s X Y row hs.2 hg hr⟩
theorem ownB_below {β : Type} {n B : Nat} {w : World} (hn : n ≤ w.heap.size) (hB : n ≤ B) : OwnB B (fun (_ : β) W => Below n w W) := fun _ X _ _ hs hg hr => hs.grown hg (by have := hs.size; omega) (fun k e => by have := (hr k e).1; omega)
theorem rowI_own {w : World} (N Bx B : Nat) : OwnB B (fun (pre : List (Itm w)) W => RowI N Bx (pre.map (·.1.v)) W) := by
  rintro pre X Y row ⟨v, ys, h1, h2, h3, h4⟩ hg hr
  have hr' := fun r e => (hr r e).2
  refine ⟨v, ys, blk_keptB hg hr' h1 rfl, own4_kept h2 fun g hgv => ?_, h3, fun y hy => (h4 y hy).cells fun k cs hk => blk_keptB hg hr' hk rfl⟩
  rcases h2.2 with ⟨rfl, _⟩ | ⟨g', cap, cur, rfl, _, hb, _⟩
  · simp [Value.ownBlock] at hgv
  · obtain rfl : g' = g := by simpa [Value.ownBlock] using hgv
    exact (blk_keptB hg hr' hb rfl).trans hb.symm

theorem flat_get : ∀ (ys : List VI) (k : Nat) (hk : k < ys.length) (j : Nat), j < 4 → (ys.flatMap cellsV)[k * 4 + j]? = (cellsV ys[k])[j]?
  | [], k, hk, _, _ => absurd hk (Nat.not_lt_zero _)
  | y :: ys, 0, _, j, hj => by
    rw [List.flatMap_cons, List.getElem?_append_left (by simp [cellsV]; omega)]
    simp
  | y :: ys, k + 1, hk, j, hj => by
    rw [List.flatMap_cons, List.getElem?_append_right (by simp [cellsV]; omega)]
    have := flat_get ys k (by simpa using hk) j hj
    rw [show (k + 1) * 4 + j - (cellsV y).length = k * 4 + j by simp [cellsV]; omega]
    simpa using this
theorem vars_of_row {w : World} {N : Nat} {ao : Option Addr} {c : Nat} {ys : List VI} (h : w.ownsRow N 34 4 (.slice ao ys.length c) ys.length (ys.flatMap cellsV)) (hI : ∀ y ∈ ys, ItemP w (PS w N) y) : VarsP w (fun g => N ≤ g) ao ys := by
  refine ⟨fun k hk => ?_, fun y hy => (hI y hy).frame fun g _ hp => ⟨hp.1, rfl⟩⟩
  rcases h.2 with ⟨hv, h0⟩ | ⟨g, cap, cur, hv, hN, _⟩
  · omega
  · cases hv
    have hc : ∀ j, j < 4 → ∀ u, (cellsV ys[k])[j]? = some u → w.cell? ⟨g, 0 + k * 4 + j, none⟩ = some u := fun j hj u hu => by
      have := h.cells (g := g) rfl (k * 4 + j) u (by rw [flat_get ys k hk j hj]; exact hu)
      by_cases h0 : k * 4 + j = 0
      · rw [h0] at this
        have e1 : 0 + k * 4 + j = 0 := by omega
        rw [e1]
        simpa [Addr.add] using this
      · have e1 : 0 + k * 4 + j = k * 4 + j := by omega
        rw [e1]
        rw [show (⟨g, 0, none⟩ : Addr).add (k * 4 + j) = ⟨g, k * 4 + j, none⟩ by unfold Addr.add; rw [if_neg h0]; simp] at this
        exact this
    exact ⟨g, 0, rfl, hN, by simpa using hc 0 (by omega) _ rfl, hc 1 (by omega) _ rfl, hc 2 (by omega) _ rfl, hc 3 (by omega) _ rfl⟩
theorem rowI_next {w W W1 w3 : World} {n₀ N : Nat} {v : Value} {ys : List VI} {vs : List V} {y : VI} {gg cap : Nat} {z : V} (hNW : N ≤ W.heap.size) (hn₀N : n₀ ≤ N) (hB : Below N w W)
    (h1 : W.heap[N]? = some (.cells #[v] 25 (0, 0))) (h2 : W.ownsRow N 34 4 v ys.length (ys.flatMap cellsV)) (h3 : ys.map (·.v) = vs) (h4 : ∀ y ∈ ys, ItemP W (PS W N) y)
    (hyv : y.v = z) (hyI : ItemP W1 (PS W1 W.heap.size) y) (hb1 : Below W.heap.size W W1)
    (hown3 : w3.ownsRow N 34 4 (.slice (some ⟨gg, 0, none⟩) (ys.length + 1) cap) (ys.length + 1) (ys.flatMap cellsV ++ cellsV y))
    (hg : (W1.alloc (.cells #[.string ⟨y.v.nm.toArray⟩, .string ⟨y.v.tx.toArray⟩, .bool y.v.ar, .slice y.A y.v.ls.length y.c] 34)).grownBy w3 v.ownBlock) :
    w3.heap[N]? = some (.cells #[v] 25 (0, 0)) ∧ KeepsOthers W (w3.setCell ⟨N, 0, none⟩ (.slice (some ⟨gg, 0, none⟩) (ys.length + 1) cap)) ∧ KpC n₀ W (w3.setCell ⟨N, 0, none⟩ (.slice (some ⟨gg, 0, none⟩) (ys.length + 1) cap)) ∧
      RowI N N (vs ++ [z]) (w3.setCell ⟨N, 0, none⟩ (.slice (some ⟨gg, 0, none⟩) (ys.length + 1) cap)) ∧ Below N w (w3.setCell ⟨N, 0, none⟩ (.slice (some ⟨gg, 0, none⟩) (ys.length + 1) cap)) := by
  have hal : Below W1.heap.size W1 (W1.alloc (.cells #[.string ⟨y.v.nm.toArray⟩, .string ⟨y.v.tx.toArray⟩, .bool y.v.ar, .slice y.A y.v.ls.length y.c] 34)) := (Below.refl _ _).alloc (Nat.le_refl _) _
  have hs1 := hb1.size
  have hba : Below W.heap.size W (W1.alloc (.cells #[.string ⟨y.v.nm.toArray⟩, .string ⟨y.v.tx.toArray⟩, .bool y.v.ar, .slice y.A y.v.ls.length y.c] 34)) := hb1.trans (hal.mono hs1)
  have hrow : ∀ j, v.ownBlock = some j → N ≤ j ∧ ∃ cs, W.heap[j]? = some (.cells cs 34 (0, 0)) := fun j e => by
    rcases h2.2 with ⟨rfl, _⟩ | ⟨g', cap', cur, rfl, hN', hb, _⟩
    · simp [Value.ownBlock] at e
    · obtain rfl : g' = j := by simpa [Value.ownBlock] using e
      exact ⟨hN', _, hb⟩
  have keep : ∀ (k : Nat) (o : Obj), W.heap[k]? = some o → (∀ cs, o ≠ .cells cs 34 (0, 0)) → w3.heap[k]? = some o := fun k o hk hne => by
    have hka := heap_below' hk hba
    exact (hg.block k (lt_of_block hka) (fun e => by
      obtain ⟨_, cs, hcs⟩ := hrow k e.symm
      rw [hk] at hcs
      exact hne cs (Option.some.inj hcs))).trans hka
  have hN3 := keep N _ h1 (fun cs e => by cases e)
  have hgN : gg ≠ N := fun e => by
    subst e
    rcases hown3.2 with ⟨hv, _⟩ | ⟨g', cap', cur, hv, _, hb, _⟩
    · cases hv
    · cases hv; rw [hN3] at hb; cases hb
  have keep2 : ∀ (k : Nat) (o : Obj), W.heap[k]? = some o → (∀ cs, o ≠ .cells cs 34 (0, 0)) → k ≠ N → (w3.setCell ⟨N, 0, none⟩ (.slice (some ⟨gg, 0, none⟩) (ys.length + 1) cap)).heap[k]? = some o := fun k o hk hne hkN =>
    (Below.heap_setCell _ _ _ _ hkN).trans (keep k o hk hne)
  have hb3 : Below N W w3 := (hba.mono hNW).grown hg (by have := hba.size; omega) fun j e => (hrow j e).1
  have hb4 : Below N W (w3.setCell ⟨N, 0, none⟩ (.slice (some ⟨gg, 0, none⟩) (ys.length + 1) cap)) := hb3.setCell (p := ⟨N, 0, none⟩) (Nat.le_refl _) _
  refine ⟨hN3, ⟨hb4.size, fun k o hk hc => keep2 k o hk (fun cs e => by subst e; cases hc) (fun e => by subst e; rw [h1] at hk; cases hk; cases hc)⟩, ⟨hb4.mono hn₀N, fun k o hk hf => keep2 k o hk (fun cs e => by subst e; cases hf) (fun e => by subst e; rw [h1] at hk; cases hk; cases hf)⟩, ⟨_, ys ++ [y], one_setCell hN3, ?_, by simp [h3, hyv], ?_⟩, hB.trans hb4⟩
  · have : (ys ++ [y]).flatMap cellsV = ys.flatMap cellsV ++ cellsV y := by simp
    rw [this, List.length_append]
    exact own4_kept hown3 fun g hgv => by
      obtain rfl : gg = g := by simpa [Value.ownBlock] using hgv
      exact Below.heap_setCell _ _ _ _ hgN
  · intro u hu
    rcases List.mem_append.1 hu with hu | hu
    · exact (h4 u hu).cells fun k cs hk => keep2 k _ hk (fun cs' e => by cases e) (fun e => by subst e; rw [h1] at hk; cases hk)
    · obtain rfl : u = y := by simpa using hu
      have h5 : ItemP W1 (PS W1 N) u := hyI.frame fun g _ hp => ⟨⟨by have := hp.1; omega, hp.2⟩, rfl⟩
      refine h5.cells fun k cs hk => ?_
      have hka := heap_below' hk hal
      have hne : k ≠ N := fun e => by subst e; have := (hb1.block k (lt_of_block h1)).trans h1; rw [hk] at this; cases this
      refine (Below.heap_setCell _ _ _ _ hne).trans ((hg.block k (lt_of_block hka) fun e => ?_).trans hka)
      obtain ⟨_, cs', hcs⟩ := hrow k e.symm
      have := (hb1.block k (lt_of_block hcs)).trans hcs
      rw [hk] at this; cases this

set_option maxRecDepth 100000 in
set_option maxHeartbeats 8000000 in
theorem copies_any (gf : Nat) (lb : Array Value) (eg : ∀ args w, (callFunc gf args).run Tryz.prog w = .ok (.enter gf args) w) (w : World) (l : List (Itm w)) (N : Nat) (hN : N * 64 ≤ 140737488355328)
    (hseq : SeqB Fence.wide 8 Tryz.prog gf lb (fun x : Itm w => encVI x.1) (KpC w.heap.size) (fun xs => xs = l) N w) :
    Calls Tryz.prog 23 #[.func (.func gf) #[] lb] w fun e w' => ∃ A c ys, e = .returned (.slice A ys.length c) ∧ VarsP w' (fun g => w.heap.size ≤ g) A ys ∧ ys.map (·.v) = l.map (·.1.v) ∧ Below w.heap.size w w' := by
  obtain ⟨i0, hi, hz0, hz1, hz2⟩ := info_parts info_var
  refine (callsIn_wide (n := 9)).1 ?_
  refine callsIn_of_wp_marks Tryz.func23 rfl trivial ?_ rfl
  simp only [Tryz.ntmps23, List.size_toArray, List.length_cons, List.length_nil, Nat.reduceAdd, Nat.reduceSub, Array.replicate_succ, Array.replicate_zero, List.push_toArray, List.append_toArray, List.nil_append, List.cons_append]
  gi_wp2
  have hB0 : Below w.heap.size w (w.alloc (.cells #[.slice none 0 0] 25)) := (Below.refl _ _).alloc (Nat.le_refl _) _
  have hs0 : (w.alloc (.cells #[.slice none 0 0] 25)).heap.size = w.heap.size + 1 := by simp
  have hR0 : RowI w.heap.size w.heap.size [] (w.alloc (.cells #[.slice none 0 0] 25)) := ⟨_, [], heap_alloc_new _ _, World.ownsRow_nil _ _ _ _, rfl, fun y hy => by cases hy⟩
  obtain ⟨W0, hW0⟩ : ∃ W0, w.alloc (.cells #[.slice none 0 0] 25) = W0 := ⟨_, rfl⟩
  rw [hW0] at hB0 hs0 hR0 ⊢
  clear hW0
  refine range_b rfl (by omega) (gf := gf) (lb := lb) rfl trivial eg hseq (fun h k => KpC.t h k) (KpC.b (by omega)) hB0 rfl
    (fun pre W => RowI w.heap.size w.heap.size (pre.map (·.1.v)) W ∧ Below w.heap.size w W)
    (OwnB.and (rowI_own _ _ _) (ownB_below (Nat.le_refl _) (by omega))) ⟨hR0, hB0⟩
    (fun _pre x a' W => ∃ Bv, W.heap[Bv]? = some (.cells #[.string ⟨x.1.v.nm.toArray⟩, .string ⟨x.1.v.tx.toArray⟩, .bool x.1.v.ar, .slice x.1.A x.1.v.ls.length x.1.c] 34 (0, 0)) ∧ a' = { tmps := #[.func (.func gf) #[] lb, undef, .slice none 0 0, .pointer (some ⟨w.heap.size, 0, none⟩), .pointer (some ⟨Bv, 0, none⟩), .func (.func gf) #[] lb, encVI x.1, undef, undef, undef, undef, undef, undef], defers := [] })
    (fun _pre x a' _ X Y row hs hg hr => by obtain ⟨Bv, h1, h2⟩ := hs; exact ⟨Bv, blk_keptB hg (fun r e => (hr r e).2) h1 rfl, h2⟩)
    ?assign ?body ?done
  case assign =>
    rintro lp pre x W K ⟨hR, hB⟩ hK
    have hal : Below W.heap.size W (W.alloc (.cells #[.string ⟨x.1.v.nm.toArray⟩, .string ⟨x.1.v.tx.toArray⟩, .bool x.1.v.ar, .slice x.1.A x.1.v.ls.length x.1.c] 34)) := (Below.refl _ _).alloc (Nat.le_refl _) _
    gi_wp2
    refine hK _ _ ((KeepsOthers.alloc _ _).from _) (KpC.of_below hal hB.size) ⟨?_, hB.trans (hal.mono hB.size)⟩ ⟨W.heap.size, heap_alloc_new _ _, rfl⟩
    obtain ⟨v, ys, h1, h2, h3, h4⟩ := hR
    exact ⟨v, ys, heap_below' h1 hal, own_below h2 hal, h3, fun y hy => (h4 y hy).cells fun k cs hk => heap_below' hk hal⟩
  case body =>
    rintro lp pre x a' W ⟨⟨v, ys, h1, h2, h3, h4⟩, hB⟩ ⟨Bv, hBv, rfl⟩ hlt
    have hNW : w.heap.size ≤ W.heap.size := hB.size
    have hlen : ys.length ≤ pre.length := by
      have := congrArg List.length h3
      simp at this
      omega
    have hx : ItemP W (fun _ => True) x.1 := x.2.frame fun g hg _ => ⟨trivial, hB.block g hg⟩
    have hxd : ItemP W.drew (fun _ => True) x.1 := hx.below ((Below.refl _ _).drew)
    have fin : ∀ (W1 : World) (y : VI), y.v = x.1.v → ItemP W1 (PS W1 W.drew.heap.size) y → Below W.drew.heap.size W.drew W1 → ∀ gg cap w3, w3.ownsRow w.heap.size 34 4 (.slice (some ⟨gg, 0, none⟩) (ys.length + 1) cap) (ys.length + 1) (ys.flatMap cellsV ++ cellsV y) →
        (W1.alloc (.cells #[.string ⟨y.v.nm.toArray⟩, .string ⟨y.v.tx.toArray⟩, .bool y.v.ar, .slice y.A y.v.ls.length y.c] 34)).grownBy w3 v.ownBlock →
        w3.heap[w.heap.size]? = some (.cells #[v] 25 (0, 0)) ∧ (KeepsFrom W0.heap.size W (w3.setCell ⟨w.heap.size, 0, none⟩ (.slice (some ⟨gg, 0, none⟩) (ys.length + 1) cap)) ∧ KpC w.heap.size W (w3.setCell ⟨w.heap.size, 0, none⟩ (.slice (some ⟨gg, 0, none⟩) (ys.length + 1) cap)) ∧
          RowI w.heap.size w.heap.size ((pre ++ [x]).map (·.1.v)) (w3.setCell ⟨w.heap.size, 0, none⟩ (.slice (some ⟨gg, 0, none⟩) (ys.length + 1) cap)) ∧ Below w.heap.size w (w3.setCell ⟨w.heap.size, 0, none⟩ (.slice (some ⟨gg, 0, none⟩) (ys.length + 1) cap))) := fun W1 y hyv hyI hb1 gg cap w3 hown3 hg => by
      obtain ⟨r1, r2, r3, r4, r5⟩ := rowI_next (W := W) (n₀ := w.heap.size) hNW (Nat.le_refl _) hB h1 h2 h3 h4 hyv hyI ((Below.refl _ W).drew.trans hb1) hown3 hg
      exact ⟨r1, r2.from _, r3, by rw [List.map_append]; exact r4, r5⟩
    have n0 : W.drew.cell? ⟨w.heap.size, 0, none⟩ = some v := cell_of_one (w := W) h1
    have hX4 : Var4' W.drew Bv _ _ _ _ := hBv
    have b0 := hX4.a0; have b1 := hX4.a1; have b2 := hX4.a2; have b3 := hX4.a3
    clear hX4 hx h3 h4
    gi_wp2
    refine region_in_round lp 7 (by kernel_rfl) ?hnd ?hQ (fun _ => True) ?_
    case hnd =>
      intro o ho c e
      simp only [List.mem_toArray, List.mem_cons, List.not_mem_nil, or_false] at ho
      rcases ho with rfl | rfl | rfl | rfl | rfl | rfl <;> cases e
    case hQ =>
      rintro ⟨a9, w9, h9⟩
      exact h9
    -- BODY
    refine wpAnyH_ready (rs := [0, 1]) (by kernel_rfl) (by simp) (AllReadyH.cons rfl (fun K hK => ?_) (AllReadyH.cons rfl (fun K hK => ?_) AllReadyH.nil))
    · go_simp
      refine hK.out _ _ trivial (fun _ => ?_)
      clear hK K
      try simp only [Act.put, List.setIfInBounds_toArray, List.set_cons_zero, List.set_cons_succ]
      refine wpAnyH_ready (rs := [1]) (by kernel_rfl) (by simp) (AllReadyH.cons rfl (fun K hK => ?_) AllReadyH.nil)
      go_simp
      refine hK.out _ _ trivial (fun _ => ?_)
      clear hK K
      try simp only [Act.put, List.setIfInBounds_toArray, List.set_cons_zero, List.set_cons_succ]
      refine wpAnyH_ready (rs := [2]) (by kernel_rfl) (by simp) (AllReadyH.cons rfl (fun K hK => ?_) AllReadyH.nil)
      go_simp
      go_at_call 32
      refine (copied_any x.1 _ hxd).mono ?_
      rintro e W1 ⟨y, rfl, hyv, hyI, hb1⟩
      have HYV := hid hyv
      clear hyv
      have hN1 : W1.heap[w.heap.size]? = some (.cells #[v] 25 (0, 0)) := (hb1.block _ (lt_of_block h1)).trans h1
      have n1 := cell_of_one hN1
      have n2 := cell_of_one (heap_below' hN1 ((Below.refl _ W1).alloc (Nat.le_refl _) (.cells #[.string ⟨y.v.nm.toArray⟩, .string ⟨y.v.tx.toArray⟩, .bool y.v.ar, .slice y.A y.v.ls.length y.c] 34)))
      have ho1 := own_below (w := W.drew) h2 hb1
      go_wp2_with fail
      refine hK.out _ _ trivial (fun _ => ?_)
      clear hK K
      try simp only [Act.put, List.setIfInBounds_toArray, List.set_cons_zero, List.set_cons_succ]
      refine wpAnyH_ready (rs := [3]) (by kernel_rfl) (by simp) (AllReadyH.cons rfl (fun K hK => ?_) AllReadyH.nil)
      go_simp
      refine hK.out _ _ trivial (fun _ => ?_)
      clear hK K
      try simp only [Act.put, List.setIfInBounds_toArray, List.set_cons_zero, List.set_cons_succ]
      refine wpAnyH_ready (rs := [4]) (by kernel_rfl) (by simp) (AllReadyH.cons rfl (fun K hK => ?_) AllReadyH.nil)
      refine step_append_lies _ (by rfl) _ _ _ (by rfl) w.heap.size 34 i0 _ 4 64 Tryz.underlying25 hi hz0 hz1 hz2 rfl (by omega) v ys.length (ys.flatMap cellsV) (by rfl) (ho1.alloc _) ⟨W1.heap.size, 0, none⟩ 1 1 (cellsV y) (by rfl) (by rfl) (World.news_of_block (cs := #[.string ⟨y.v.nm.toArray⟩, .string ⟨y.v.tx.toArray⟩, .bool y.v.ar, .slice y.A y.v.ls.length y.c]) (t := 34) (fr := (0, 0)) (heap_alloc_new W1 _)) (by simp [cellsV, Value.oneCell']) (by omega) (by unfold maxLen; omega) (by omega) (by have := hb1.size; have := hB.size; have : W.heap.size ≤ W1.heap.size := hb1.size; simp; omega) (W1.heap.size + 1) (by simp) ?_
      intro gg cap w3 hown3 hg hat hlt3
      have hf := fin W1 y HYV.out hyI hb1 gg cap w3 hown3 hg
      have hN3 := hf.1
      have n3 := cell_of_one hN3
      have f3 := free_of_one hN3
      change K (Act.put _ (some 11) _) _
      refine hK.out _ _ trivial (fun _ => ?_)
      clear hK K
      try simp only [Act.put, List.setIfInBounds_toArray, List.set_cons_zero, List.set_cons_succ]
      refine wpAnyH_ready (rs := [5]) (by kernel_rfl) (by simp) (AllReadyH.cons rfl (fun K hK => ?_) AllReadyH.nil)
      go_simp
      refine hK.out _ _ trivial (fun _ => ?_)
      clear hK K
      try simp only [Act.put, List.setIfInBounds_toArray, List.set_cons_zero, List.set_cons_succ]
      refine wpAnyH_done (by kernel_rfl) ?_ _
      exact hf.2
    · go_simp
      refine hK.out _ _ trivial (fun _ => ?_)
      clear hK K
      try simp only [Act.put, List.setIfInBounds_toArray, List.set_cons_zero, List.set_cons_succ]
      refine wpAnyH_ready (rs := [0, 2]) (by kernel_rfl) (by simp) (AllReadyH.cons rfl (fun K hK => ?_) (AllReadyH.cons rfl (fun K hK => ?_) AllReadyH.nil))
      · go_simp
        refine hK.out _ _ trivial (fun _ => ?_)
        clear hK K
        try simp only [Act.put, List.setIfInBounds_toArray, List.set_cons_zero, List.set_cons_succ]
        refine wpAnyH_ready (rs := [2]) (by kernel_rfl) (by simp) (AllReadyH.cons rfl (fun K hK => ?_) AllReadyH.nil)
        go_simp
        go_at_call 32
        refine (copied_any x.1 _ hxd).mono ?_
        rintro e W1 ⟨y, rfl, hyv, hyI, hb1⟩
        have HYV := hid hyv
        clear hyv
        have hN1 : W1.heap[w.heap.size]? = some (.cells #[v] 25 (0, 0)) := (hb1.block _ (lt_of_block h1)).trans h1
        have n1 := cell_of_one hN1
        have n2 := cell_of_one (heap_below' hN1 ((Below.refl _ W1).alloc (Nat.le_refl _) (.cells #[.string ⟨y.v.nm.toArray⟩, .string ⟨y.v.tx.toArray⟩, .bool y.v.ar, .slice y.A y.v.ls.length y.c] 34)))
        have ho1 := own_below (w := W.drew) h2 hb1
        go_wp2_with fail
        refine hK.out _ _ trivial (fun _ => ?_)
        clear hK K
        try simp only [Act.put, List.setIfInBounds_toArray, List.set_cons_zero, List.set_cons_succ]
        refine wpAnyH_ready (rs := [3]) (by kernel_rfl) (by simp) (AllReadyH.cons rfl (fun K hK => ?_) AllReadyH.nil)
        go_simp
        refine hK.out _ _ trivial (fun _ => ?_)
        clear hK K
        try simp only [Act.put, List.setIfInBounds_toArray, List.set_cons_zero, List.set_cons_succ]
        refine wpAnyH_ready (rs := [4]) (by kernel_rfl) (by simp) (AllReadyH.cons rfl (fun K hK => ?_) AllReadyH.nil)
        refine step_append_lies _ (by rfl) _ _ _ (by rfl) w.heap.size 34 i0 _ 4 64 Tryz.underlying25 hi hz0 hz1 hz2 rfl (by omega) v ys.length (ys.flatMap cellsV) (by rfl) (ho1.alloc _) ⟨W1.heap.size, 0, none⟩ 1 1 (cellsV y) (by rfl) (by rfl) (World.news_of_block (cs := #[.string ⟨y.v.nm.toArray⟩, .string ⟨y.v.tx.toArray⟩, .bool y.v.ar, .slice y.A y.v.ls.length y.c]) (t := 34) (fr := (0, 0)) (heap_alloc_new W1 _)) (by simp [cellsV, Value.oneCell']) (by omega) (by unfold maxLen; omega) (by omega) (by have := hb1.size; have := hB.size; have : W.heap.size ≤ W1.heap.size := hb1.size; simp; omega) (W1.heap.size + 1) (by simp) ?_
        intro gg cap w3 hown3 hg hat hlt3
        have hf := fin W1 y HYV.out hyI hb1 gg cap w3 hown3 hg
        have hN3 := hf.1
        have n3 := cell_of_one hN3
        have f3 := free_of_one hN3
        change K (Act.put _ (some 11) _) _
        refine hK.out _ _ trivial (fun _ => ?_)
        clear hK K
        try simp only [Act.put, List.setIfInBounds_toArray, List.set_cons_zero, List.set_cons_succ]
        refine wpAnyH_ready (rs := [5]) (by kernel_rfl) (by simp) (AllReadyH.cons rfl (fun K hK => ?_) AllReadyH.nil)
        go_simp
        refine hK.out _ _ trivial (fun _ => ?_)
        clear hK K
        try simp only [Act.put, List.setIfInBounds_toArray, List.set_cons_zero, List.set_cons_succ]
        refine wpAnyH_done (by kernel_rfl) ?_ _
        exact hf.2
      · go_simp
        go_at_call 32
        refine (copied_any x.1 _ hxd).mono ?_
        rintro e W1 ⟨y, rfl, hyv, hyI, hb1⟩
        have HYV := hid hyv
        clear hyv
        have hN1 : W1.heap[w.heap.size]? = some (.cells #[v] 25 (0, 0)) := (hb1.block _ (lt_of_block h1)).trans h1
        have n1 := cell_of_one hN1
        have n2 := cell_of_one (heap_below' hN1 ((Below.refl _ W1).alloc (Nat.le_refl _) (.cells #[.string ⟨y.v.nm.toArray⟩, .string ⟨y.v.tx.toArray⟩, .bool y.v.ar, .slice y.A y.v.ls.length y.c] 34)))
        have ho1 := own_below (w := W.drew) h2 hb1
        go_wp2_with fail
        refine hK.out _ _ trivial (fun _ => ?_)
        clear hK K
        try simp only [Act.put, List.setIfInBounds_toArray, List.set_cons_zero, List.set_cons_succ]
        refine wpAnyH_ready (rs := [0, 3]) (by kernel_rfl) (by simp) (AllReadyH.cons rfl (fun K hK => ?_) (AllReadyH.cons rfl (fun K hK => ?_) AllReadyH.nil))
        · go_simp
          refine hK.out _ _ trivial (fun _ => ?_)
          clear hK K
          try simp only [Act.put, List.setIfInBounds_toArray, List.set_cons_zero, List.set_cons_succ]
          refine wpAnyH_ready (rs := [3]) (by kernel_rfl) (by simp) (AllReadyH.cons rfl (fun K hK => ?_) AllReadyH.nil)
          go_simp
          refine hK.out _ _ trivial (fun _ => ?_)
          clear hK K
          try simp only [Act.put, List.setIfInBounds_toArray, List.set_cons_zero, List.set_cons_succ]
          refine wpAnyH_ready (rs := [4]) (by kernel_rfl) (by simp) (AllReadyH.cons rfl (fun K hK => ?_) AllReadyH.nil)
          refine step_append_lies _ (by rfl) _ _ _ (by rfl) w.heap.size 34 i0 _ 4 64 Tryz.underlying25 hi hz0 hz1 hz2 rfl (by omega) v ys.length (ys.flatMap cellsV) (by rfl) (ho1.alloc _) ⟨W1.heap.size, 0, none⟩ 1 1 (cellsV y) (by rfl) (by rfl) (World.news_of_block (cs := #[.string ⟨y.v.nm.toArray⟩, .string ⟨y.v.tx.toArray⟩, .bool y.v.ar, .slice y.A y.v.ls.length y.c]) (t := 34) (fr := (0, 0)) (heap_alloc_new W1 _)) (by simp [cellsV, Value.oneCell']) (by omega) (by unfold maxLen; omega) (by omega) (by have := hb1.size; have := hB.size; have : W.heap.size ≤ W1.heap.size := hb1.size; simp; omega) (W1.heap.size + 1) (by simp) ?_
          intro gg cap w3 hown3 hg hat hlt3
          have hf := fin W1 y HYV.out hyI hb1 gg cap w3 hown3 hg
          have hN3 := hf.1
          have n3 := cell_of_one hN3
          have f3 := free_of_one hN3
          change K (Act.put _ (some 11) _) _
          refine hK.out _ _ trivial (fun _ => ?_)
          clear hK K
          try simp only [Act.put, List.setIfInBounds_toArray, List.set_cons_zero, List.set_cons_succ]
          refine wpAnyH_ready (rs := [5]) (by kernel_rfl) (by simp) (AllReadyH.cons rfl (fun K hK => ?_) AllReadyH.nil)
          go_simp
          refine hK.out _ _ trivial (fun _ => ?_)
          clear hK K
          try simp only [Act.put, List.setIfInBounds_toArray, List.set_cons_zero, List.set_cons_succ]
          refine wpAnyH_done (by kernel_rfl) ?_ _
          exact hf.2
        · go_simp
          refine hK.out _ _ trivial (fun _ => ?_)
          clear hK K
          try simp only [Act.put, List.setIfInBounds_toArray, List.set_cons_zero, List.set_cons_succ]
          refine wpAnyH_ready (rs := [0]) (by kernel_rfl) (by simp) (AllReadyH.cons rfl (fun K hK => ?_) AllReadyH.nil)
          go_simp
          refine hK.out _ _ trivial (fun _ => ?_)
          clear hK K
          try simp only [Act.put, List.setIfInBounds_toArray, List.set_cons_zero, List.set_cons_succ]
          refine wpAnyH_ready (rs := [4]) (by kernel_rfl) (by simp) (AllReadyH.cons rfl (fun K hK => ?_) AllReadyH.nil)
          refine step_append_lies _ (by rfl) _ _ _ (by rfl) w.heap.size 34 i0 _ 4 64 Tryz.underlying25 hi hz0 hz1 hz2 rfl (by omega) v ys.length (ys.flatMap cellsV) (by rfl) (ho1.alloc _) ⟨W1.heap.size, 0, none⟩ 1 1 (cellsV y) (by rfl) (by rfl) (World.news_of_block (cs := #[.string ⟨y.v.nm.toArray⟩, .string ⟨y.v.tx.toArray⟩, .bool y.v.ar, .slice y.A y.v.ls.length y.c]) (t := 34) (fr := (0, 0)) (heap_alloc_new W1 _)) (by simp [cellsV, Value.oneCell']) (by omega) (by unfold maxLen; omega) (by omega) (by have := hb1.size; have := hB.size; have : W.heap.size ≤ W1.heap.size := hb1.size; simp; omega) (W1.heap.size + 1) (by simp) ?_
          intro gg cap w3 hown3 hg hat hlt3
          have hf := fin W1 y HYV.out hyI hb1 gg cap w3 hown3 hg
          have hN3 := hf.1
          have n3 := cell_of_one hN3
          have f3 := free_of_one hN3
          change K (Act.put _ (some 11) _) _
          refine hK.out _ _ trivial (fun _ => ?_)
          clear hK K
          try simp only [Act.put, List.setIfInBounds_toArray, List.set_cons_zero, List.set_cons_succ]
          refine wpAnyH_ready (rs := [5]) (by kernel_rfl) (by simp) (AllReadyH.cons rfl (fun K hK => ?_) AllReadyH.nil)
          go_simp
          refine hK.out _ _ trivial (fun _ => ?_)
          clear hK K
          try simp only [Act.put, List.setIfInBounds_toArray, List.set_cons_zero, List.set_cons_succ]
          refine wpAnyH_done (by kernel_rfl) ?_ _
          exact hf.2
    -- ENDBODY
  case done =>
    rintro xs W rfl ⟨⟨v, ys, h1, h2, h3, h4⟩, hB⟩ hK
    obtain ⟨ao, n', cap, rfl⟩ := own_slice h2
    have hn' : n' = ys.length := by
      rcases h2.2 with ⟨hv, h0⟩ | ⟨g', cap', cur, hv, _⟩
      · cases hv; omega
      · cases hv; rfl
    subst hn'
    have c1 := cell_of_one h1
    have H3 := hid h3
    clear h3
    gi_wp2
    refine ⟨by simp, .inl ⟨_, _, rfl, run_takeDeferred hK, ?_⟩⟩
    have hput : W.grownBy (W.putObj W0.heap.size (.deferred none)) (some W0.heap.size) := grownBy_putObj' W _ _
    have hnc : ∀ r, some W0.heap.size = some r → ∃ o : Obj, W.heap[r]? = some o ∧ o.isCells = false := fun r e => by cases e; exact ⟨_, hK, rfl⟩
    refine ⟨_, results_tmp rfl _ _ _, ao, cap, ys, rfl, ?_, H3.out, hB.trans (belowK_b (w := w) (Nat.le_refl _) W _ _ _ (by omega) hK rfl rfl)⟩
    exact vars_of_row (own4_kept h2 fun g hgv => by
      rcases h2.2 with ⟨hv, _⟩ | ⟨g', cap', cur, hv, _, hb, _⟩
      · obtain rfl : ao = none := by injection hv
        simp [Value.ownBlock] at hgv
      · obtain rfl : ao = some ⟨g', 0, none⟩ := by injection hv
        obtain rfl : g' = g := by simpa [Value.ownBlock] using hgv
        exact (blk_kept hput hnc hb).trans hb.symm) (fun y hy => (h4 y hy).cells fun k cs hk => blk_kept hput hnc hk)
end Go.Proofs.YthgmilllinbcjaaGreatDoor
namespace Go.Proofs.YthgmilllinbcjaaGreatDoor
open Go.RowKit Go.Shelf
open Go.Lib (hid)

attribute [local go_sem] Oper.semAt_some

/-- The variables of a list, each with what it leads to. -/
def itemsOf {w : World} {A : Option Addr} (l : List VI) (h : VarsP w (fun _ => True) A l) : List (Itm w) := l.attach.map fun x => ⟨x.1, h.2 x.1 x.2⟩
theorem itemsOf_v {w : World} {A : Option Addr} (l : List VI) (h : VarsP w (fun _ => True) A l) : (itemsOf l h).map (·.1.v) = l.map (·.v) := by
  unfold itemsOf
  rw [List.map_map]
  show l.attach.map (fun x => x.1.v) = _
  conv => rhs; rw [← List.attach_map_subtype_val l, List.map_map]
  rfl
theorem itemsOf_len {w : World} {A : Option Addr} (l : List VI) (h : VarsP w (fun _ => True) A l) : (itemsOf l h).length = l.length := by simp [itemsOf]
theorem itemsOf_get {w : World} {A : Option Addr} (l : List VI) (h : VarsP w (fun _ => True) A l) (k : Nat) (hk : k < (itemsOf l h).length) : ((itemsOf l h)[k]).1 = l[k]'(by rw [← itemsOf_len l h]; exact hk) := by simp [itemsOf]

set_option maxHeartbeats 1000000 in
theorem values_any (A : Option Addr) (n c : Nat) (w : World) :
    Calls Tryz.prog 24 #[.slice A n c] w fun e w' => e = .returned (.func (.func 44) #[] #[.pointer (some ⟨w.heap.size, 0, none⟩)]) ∧ w' = w.alloc (.cells #[.slice A n c] 25) := by
  go_enter Tryz.func24, Tryz.ntmps24
  go_wp2
  go_ret
  exact ⟨rfl, rfl⟩

set_option maxRecDepth 100000 in
set_option maxHeartbeats 4000000 in
theorem values_stops (Bs : Nat) (A : Option Addr) (c : Nat) (l : List VI) (w : World) (hBs : w.cell? ⟨Bs, 0, none⟩ = some (.slice A l.length c)) (hV : VarsP w (fun _ => True) A l) (hreach : l.length * 64 ≤ 140737488355328) :
    SeqStopsK Fence.wide 8 Tryz.prog 44 #[.pointer (some ⟨Bs, 0, none⟩)] (fun x : Itm w => #[encVI x.1]) (KpC w.heap.size) (fun xs => xs = itemsOf l hV) (fun _ => True) l.length w := fun lp J Jx W hW hJ hJx hY h0 => by
  have hBl := World.block_lt_of_cell? w _ hBs
  have hc0 := (hW.cell (p := ⟨Bs, 0, none⟩) hBl).trans hBs
  have hlen := itemsOf_len l hV
  refine callsIn_of_wp Tryz.func44 rfl trivial ?_ rfl
  simp only [Tryz.ntmps44, List.size_toArray, List.length_cons, List.length_nil, Nat.reduceAdd, Nat.reduceSub, Array.replicate_succ, Array.replicate_zero, List.push_toArray, List.append_toArray, List.nil_append, List.cons_append]
  have HL := hid hlen
  clear hlen
  gi_wp2
  gi_loopw [7] (fun i wr => ∃ k : Nat, k ≤ l.length ∧ i = .int .i64 k ∧ J ((itemsOf l hV).take k) wr ∧ Below w.heap.size w wr ∧ W.heap.size ≤ wr.heap.size) (fun i _ => l.length - (intOf i).toNat)
  case atStart => exact ⟨0, Nat.zero_le _, rfl, h0, hW, Nat.le_refl _⟩
  case round =>
    obtain ⟨k, hk, rfl, hJs, hB, hWs⟩ := hrel
    by_cases hlt : k < l.length
    · obtain ⟨g, o, rfl, -, d0, d1, d2, d3⟩ := hV.1 k hlt
      have e0 := (hB.cell (p := ⟨g, o + k * 4, none⟩) (World.block_lt_of_cell? w _ d0)).trans d0
      have e1 := (hB.cell (p := ⟨g, o + k * 4 + 1, none⟩) (World.block_lt_of_cell? w _ d1)).trans d1
      have e2 := (hB.cell (p := ⟨g, o + k * 4 + 2, none⟩) (World.block_lt_of_cell? w _ d2)).trans d2
      have e3 := (hB.cell (p := ⟨g, o + k * 4 + 3, none⟩) (World.block_lt_of_cell? w _ d3)).trans d3
      have hlt' : k < (itemsOf l hV).length := by rw [HL.out]; exact hlt
      have hal : Below wr.heap.size wr (wr.alloc (.cells (cellsV l[k]).toArray 34)) := (Below.refl _ _).alloc (Nat.le_refl _) _
      have hJa := hJ _ _ _ none hJs (World.grownBy_alloc wr (.cells (cellsV l[k]).toArray 34) none) (fun r e => by cases e)
      obtain ⟨fn, tmps, assign, body, hy, hR⟩ := hY _ (itemsOf l hV)[k] _ hJa (by rw [List.length_take]; omega)
      have HT : Hid ((itemsOf l hV).take k ++ [(itemsOf l hV)[k]] = (itemsOf l hV).take (k + 1)) := hid (List.take_succ_eq_append_getElem hlt').symm
      try dsimp only at hy
      rw [itemsOf_get l hV k hlt'] at hy
      have hBa := hB.trans (hal.mono hB.size)
      have hX : Var4' (wr.alloc (.cells (cellsV l[k]).toArray 34)) wr.heap.size (.string ⟨l[k].v.nm.toArray⟩) (.string ⟨l[k].v.tx.toArray⟩) (.bool l[k].v.ar) (.slice l[k].A l[k].v.ls.length l[k].c) := heap_alloc_new _ _
      have x0 := hX.a0; have x1 := hX.a1; have x2 := hX.a2; have x3 := hX.a3
      have hsa := hal.size
      simp only [cellsV] at hy x0 x1 x2 x3 hR hBa hsa
      have HS := hid (And.intro hBa hsa)
      clear hJa hX hal hY d0 d1 d2 d3 hBa hsa
      gi_wp2
      refine hR.mono ?_
      rintro e W3 (⟨rfl, hJ3, hk3⟩ | ⟨rfl, hJx3⟩)
      · rw [HT.out] at hJ3
        have HK := hid (And.intro hk3 hJ3)
        clear hJ3 hk3 x0 x1 x2 x3
        gi_wp2
        go_roundw
        case rel => exact ⟨k + 1, by omega, by simp, HK.out.2, HS.out.1.trans HK.out.1.below, by have := HK.out.1.below.size; have := HS.out.2; omega⟩
        case measure => simp [intOf]; omega
      · clear x0 x1 x2 x3
        gi_wp2
        refine bodyPost_ret (results_none rfl _ _ _) rfl ?_
        exact ⟨⟨_, rfl⟩, .inr ⟨_, trivial, hJx3⟩⟩
    · obtain rfl : k = l.length := by omega
      have HT : Hid ((itemsOf l hV).take l.length = itemsOf l hV) := hid (by rw [← HL.out, List.take_length])
      rw [HT.out] at hJs
      gi_wp2
      go_end0
      exact ⟨⟨_, rfl⟩, .inl ⟨_, rfl, hJs⟩⟩
end Go.Proofs.YthgmilllinbcjaaGreatDoor
namespace Go.Proofs.YthgmilllinbcjaaGreatDoor
open Go.RowKit
open Go.Lib (hid)

section
variable {F : Fence} {nF : Nat} {w : World} {ops : Array Oper} {rest : List Oper} {o : Oper} {a : Act} {Q : Exit → Act → World → Prop}
theorem wpListIn_mapUpdate_v (hg : o.guard = none) (m x v : Operand) (t e : TypeId) (hop : o.op = Op.mapUpdate t m x v) (ht : Tryz.prog.underlying t = some (.map 9 e)) (b n : Nat) (f : List UInt8 → Option Value)
    (hm : a.eval m = .map (some b)) (hown : MapV w b n f) (hn : n < maxLen) (s : List UInt8) (val : Value) (hx : a.eval x = .string ⟨s.toArray⟩) (hv : a.eval v = val) (hs : s.length ≤ maxLen)
    (hK : ∀ w', MapV w' b (if (f s).isSome then n else n + 1) (fun k => if k = s then some val else f k) → w.grownBy w' (some b) → wpListIn F nF Tryz.prog ops Q rest (a.put o.dst undef) w') :
    wpListIn F nF Tryz.prog ops Q (o :: rest) a w := by
  refine wpListIn_plain hg fun K' hK' => ?_
  obtain ⟨w', hrun, r1, r2⟩ := hown.store ht hn s hs val
  unfold Oper.wpIn
  refine ⟨by simp [Oper.about, hop], ?_⟩
  rw [Oper.semAt_plain F _ _ (by rw [hop]; intro c hc'; cases hc')]
  simp [execOp, hop, hm, hx, hv, hrun, Result.andThen]
  exact hK' _ _ (hK w' r1 r2)
theorem wpListIn_lookup_v (hg : o.guard = none) (m x : Operand) (t e : TypeId) (c : Bool) (hop : o.op = Op.lookup t m x c) (ht : Tryz.prog.underlying t = some (.map 9 e)) (z : Value) (hz : (zeroValue e).run Tryz.prog w = .ok z w) (b n : Nat) (f : List UInt8 → Option Value)
    (hm : a.eval m = .map (some b)) (hown : MapV w b n f) (s : List UInt8) (hx : a.eval x = .string ⟨s.toArray⟩) (hs : s.length ≤ maxLen)
    (hK : wpListIn F nF Tryz.prog ops Q rest (a.put o.dst (if c then .tuple #[(f s).getD z, .bool (f s).isSome] else (f s).getD z)) w) :
    wpListIn F nF Tryz.prog ops Q (o :: rest) a w := by
  refine wpListIn_plain hg fun K' hK' => ?_
  have hrun := hown.look ht hz c s hs
  unfold Oper.wpIn
  refine ⟨by simp [Oper.about, hop], ?_⟩
  rw [Oper.semAt_plain F _ _ (by rw [hop]; intro c hc'; cases hc')]
  simp [execOp, hop, hm, hx, hrun, Result.andThen]
  exact hK' _ _ hK
theorem wpListIn_make_row (hg : o.guard = none) (l c : Operand) (t : TypeId) (hop : o.op = Op.makeSlice t l c)
    (e : TypeId) (z : Value) (bytes : Nat) (ht : Tryz.prog.underlying t = some (.slice e)) (hinfo : (Tryz.prog.info? e).map (fun i => (i.zero, i.size, i.bytes)) = some (some z, 1, bytes)) (hz1 : z.cells = #[z])
    (kl kc : IntKind) (n : Nat) (hl : a.eval l = .int kl (n : Int)) (hc : a.eval c = .int kc (n : Int)) (hbytes : bytes * n ≤ 281474976710656) (h63 : n ≤ 9223372036854775807)
    (hK : wpListIn F nF Tryz.prog ops Q rest (a.put o.dst (.slice (some ⟨w.heap.size, 0, none⟩) n n)) (w.alloc (.cells (madeCells #[z] n) e))) :
    wpListIn F nF Tryz.prog ops Q (o :: rest) a w := by
  refine wpListIn_plain hg fun K hK' => ?_
  have hrun := run_make_row' (P := Tryz.prog) t e z bytes ht hinfo hz1 kl kc n hbytes h63 w
  unfold Oper.wpIn
  refine ⟨by simp [Oper.about, hop], ?_⟩
  rw [Oper.semAt_plain F _ _ (by rw [hop]; intro c hc'; cases hc')]
  simp [execOp, hop, hl, hc, hrun, Result.andThen]
  exact hK' _ _ hK
end
theorem info_bool : (Tryz.prog.info? 4).map (fun i => (i.zero, i.size, i.bytes)) = some (some (.bool false), 1, 1) := by kernel_rfl
theorem zero_int (w : World) : (zeroValue 3).run Tryz.prog w = .ok (.int .i64 0) w := by kernel_rfl

/-- The list of bools in block b. -/
def OutAt (W : World) (b : Nat) (ob : List Bool) : Prop := W.heap[b]? = some (.cells (ob.map Value.bool).toArray 4 (0, 0))
theorem made_false (n : Nat) : madeCells #[.bool false] n = ((List.replicate n false).map Value.bool).toArray := by
  apply Array.ext
  · simp [madeCells]
  · intro i h1 h2
    simp [madeCells, Nat.mod_one]
theorem OutAt.made (w : World) (n : Nat) : OutAt (w.alloc (.cells (madeCells #[.bool false] n) 4)) w.heap.size (List.replicate n false) := by
  unfold OutAt
  rw [← made_false]
  exact heap_alloc_new w _
theorem OutAt.cell {W : World} {b : Nat} {ob : List Bool} (h : OutAt W b ob) (k : Nat) (hk : k < ob.length) : W.cell? ⟨b, k, none⟩ = some (.bool ob[k]) := by
  simp [World.cell?, show W.heap[b]? = _ from h, hk]
theorem OutAt.lt {W : World} {b : Nat} {ob : List Bool} (h : OutAt W b ob) : b < W.heap.size := lt_of_block h
theorem OutAt.free {W : World} {b : Nat} {ob : List Bool} (h : OutAt W b ob) (k : Nat) : W.frozen? ⟨b, k, none⟩ = false := by simp [World.frozen?, show W.heap[b]? = _ from h]
theorem OutAt.set {W : World} {b : Nat} {ob : List Bool} (h : OutAt W b ob) (k : Nat) (x : Bool) : OutAt (W.setCell ⟨b, k, none⟩ (.bool x)) b (ob.set k x) := by
  have := heap_set (k := k) h (.bool x)
  unfold OutAt
  rw [this]
  simp [List.map_set]
theorem OutAt.block {W W' : World} {b : Nat} {ob : List Bool} (h : OutAt W b ob) (hb : W'.heap[b]? = W.heap[b]?) : OutAt W' b ob := hb.trans h
theorem OutAt.fine {W W' : World} {n b : Nat} {ob : List Bool} (h : OutAt W b ob) (hk : KpC n W W') : OutAt W' b ob := hk.fine _ _ h rfl
theorem MapV.fine {W W' : World} {n b m : Nat} {f : List UInt8 → Option Value} (h : MapV W b m f) (hk : KpC n W W') : MapV W' b m f := by
  obtain ⟨es, c, he⟩ := h.obj
  exact h.block ((hk.fine _ _ he rfl).trans he.symm)

theorem alloc_set1 (w : World) (cs : Array Value) (t : TypeId) (k : Nat) (v : Value) : (w.alloc (.cells cs t)).setCell ⟨w.heap.size, k, none⟩ v = w.alloc (.cells (cs.setIfInBounds k v) t) := by
  have h := heap_set (k := k) (heap_alloc_new w (.cells cs t)) v
  have h2 := heap_alloc_new w (.cells (cs.setIfInBounds k v) t)
  have hh : ((w.alloc (.cells cs t)).setCell ⟨w.heap.size, k, none⟩ v).heap = (w.alloc (.cells (cs.setIfInBounds k v) t)).heap := by
    apply Array.ext
    · rw [show ((w.alloc (.cells cs t)).setCell ⟨w.heap.size, k, none⟩ v).heap.size = (w.alloc (.cells cs t)).heap.size by simp [World.setCell], World.size_alloc, World.size_alloc]
    · intro i h1 h3
      have e : ((w.alloc (.cells cs t)).setCell ⟨w.heap.size, k, none⟩ v).heap[i]? = (w.alloc (.cells (cs.setIfInBounds k v) t)).heap[i]? := by
        by_cases hi : i = w.heap.size
        · subst hi; rw [h, h2]
        · rw [Below.heap_setCell _ _ _ _ hi]
          have hlt : i < w.heap.size := by rw [World.size_alloc] at h3; omega
          rw [Below.heap_alloc _ _ _ hlt, Below.heap_alloc _ _ _ hlt]
      rw [Array.getElem?_eq_getElem h1, Array.getElem?_eq_getElem h3] at e
      exact Option.some.inj e
  have hw : ∀ A B : World, A.heap = B.heap → A = { A with heap := B.heap } := fun A B e => by rw [← e]
  rw [hw _ _ hh]
  rfl
theorem alloc_set4 (w : World) (x y z k x' y' z' k' : Value) (t : TypeId) : ((((w.alloc (.cells #[x, y, z, k] t)).setCell ⟨w.heap.size, 0, none⟩ x').setCell ⟨w.heap.size, 1, none⟩ y').setCell ⟨w.heap.size, 2, none⟩ z').setCell ⟨w.heap.size, 3, none⟩ k' = w.alloc (.cells #[x', y', z', k'] t) := by
  rw [alloc_set1, alloc_set1, alloc_set1, alloc_set1]; rfl

abbrev nmI {w : World} (x : Itm w) : List UInt8 := x.1.v.nm
/-- What stands in places behind the first k fresh ones. -/
def placeF {w : World} (fr : List (Itm w)) (k : Nat) (s : List UInt8) : Option Value := (placeOf nmI (fr.take k) s).map fun i : Nat => .int .i64 (i : Int)
theorem placeF_zero {w : World} (fr : List (Itm w)) : placeF fr 0 = fun _ => none := by
  funext s; simp [placeF, placeOf]
theorem placeF_step {w : World} (fr : List (Itm w)) (hn : (fr.map nmI).Nodup) (k : Nat) (hk : k < fr.length) : (fun s => if s = nmI fr[k] then some (Value.int .i64 (k : Int)) else placeF fr k s) = placeF fr (k + 1) := by
  funext s
  have ht : fr.take (k + 1) = fr.take k ++ [fr[k]] := List.take_succ_eq_append_getElem hk
  unfold placeF placeOf
  rw [ht, List.findIdx?_append]
  by_cases e : s = nmI fr[k]
  · rw [if_pos e]
    have h0 : (fr.take k).findIdx? (fun x => nmI x == s) = none := by
      rw [List.findIdx?_eq_none_iff]
      intro x hx
      obtain ⟨j, hj, rfl⟩ := List.getElem_of_mem hx
      have hj' : j < k := by simp at hj; omega
      have hjl : j < fr.length := by omega
      have hp := List.pairwise_iff_getElem.1 hn j k (by simpa using hjl) (by simpa using hk) hj'
      rw [List.getElem_map, List.getElem_map] at hp
      rw [List.getElem_take, e]
      simpa using hp
    rw [h0]
    simp [List.findIdx?_cons, e, Nat.min_eq_left (Nat.le_of_lt hk)]
  · rw [if_neg e]
    have h0 : [fr[k]].findIdx? (fun x => nmI x == s) = none := by
      rw [List.findIdx?_eq_none_iff]
      intro x hx
      simp at hx; subst hx
      simpa using fun h => e h.symm
    rw [h0]
    simp
theorem placeF_all {w : World} (fr : List (Itm w)) (s : List UInt8) : placeF fr fr.length s = (placeOf nmI fr s).map fun i : Nat => .int .i64 (i : Int) := by
  unfold placeF; rw [List.take_length]
theorem grownBy_setK (W : World) (b k : Nat) (v : Value) : W.grownBy (W.setCell ⟨b, k, none⟩ v) (some b) :=
  ⟨rfl, rfl, rfl, (KeepsWalks.setCell W _ v).size, fun j _ hj => Below.heap_setCell _ _ _ _ (fun e => hj (by rw [e]))⟩
/-- The box of x turned to y, and the i-th of the bools. -/
abbrev UU (wr : World) (x y : VI) (b i : Nat) : World :=
  (((((wr.alloc (.cells #[.string ⟨x.v.nm.toArray⟩, .string ⟨x.v.tx.toArray⟩, .bool x.v.ar, .slice x.A x.v.ls.length x.c] 34)).setCell ⟨wr.heap.size, 0, none⟩ (.string ⟨y.v.nm.toArray⟩)).setCell ⟨wr.heap.size, 1, none⟩ (.string ⟨y.v.tx.toArray⟩)).setCell ⟨wr.heap.size, 2, none⟩ (.bool y.v.ar)).setCell ⟨wr.heap.size, 3, none⟩ (.slice y.A y.v.ls.length y.c)).setCell ⟨b, i, none⟩ (.bool true)
theorem UU_eq (wr : World) (x y : VI) (b i : Nat) : UU wr x y b i = (wr.alloc (.cells (cellsV y).toArray 34)).setCell ⟨b, i, none⟩ (.bool true) := by
  unfold UU
  rw [alloc_set4]; rfl
theorem UU_facts {w wr : World} {n0 b i m : Nat} {ob : List Bool} {n : Nat} {f : List UInt8 → Option Value} (x y : VI) (hO : OutAt wr b ob) (hM : MapV wr m n f) (hB : Below n0 w wr) (hbN : n0 ≤ b) :
    OutAt (UU wr x y b i) b (ob.set i true) ∧ MapV (UU wr x y b i) m n f ∧ Below n0 w (UU wr x y b i) ∧ Var4' (UU wr x y b i) wr.heap.size (.string ⟨y.v.nm.toArray⟩) (.string ⟨y.v.tx.toArray⟩) (.bool y.v.ar) (.slice y.A y.v.ls.length y.c) := by
  rw [UU_eq]
  have hOa := hO.block (Below.heap_alloc wr (.cells (cellsV y).toArray 34) _ hO.lt)
  have hMa := hM.block (Below.heap_alloc wr (.cells (cellsV y).toArray 34) _ hM.lt)
  obtain ⟨es, cl, he⟩ := hMa.obj
  have hmb : m ≠ b := fun e => by subst e; rw [show (wr.alloc _).heap[m]? = _ from hOa] at he; cases he
  have hbl := hO.lt
  refine ⟨hOa.set i true, hMa.block (Below.heap_setCell _ _ _ _ hmb), (hB.alloc (by omega) _).setCell (p := ⟨b, i, none⟩) hbN _, ?_⟩
  have h4 : Var4' (wr.alloc (.cells (cellsV y).toArray 34)) wr.heap.size (.string ⟨y.v.nm.toArray⟩) (.string ⟨y.v.tx.toArray⟩) (.bool y.v.ar) (.slice y.A y.v.ls.length y.c) := heap_alloc_new _ _
  exact (Below.heap_setCell _ _ _ _ (by show wr.heap.size ≠ b; omega)).trans h4
end Go.Proofs.YthgmilllinbcjaaGreatDoor
namespace Go.Proofs.YthgmilllinbcjaaGreatDoor
open Go.RowKit Go.Shelf
open Go.Lib (hid)

attribute [local go_sem] Oper.semAt_some

theorem boxV_at {w : World} {A : Option Addr} {l : List VI} (h : VarsP w (fun _ => True) A l) (k : Nat) (hk : k < l.length) : ∃ g o, A = some ⟨g, o, none⟩ ∧ w.cell? ⟨g, o + k * 4, none⟩ = some (encS l[k].v.nm) ∧ w.cell? ⟨g, o + k * 4 + 1, none⟩ = some (encS l[k].v.tx) ∧ w.cell? ⟨g, o + k * 4 + 2, none⟩ = some (.bool l[k].v.ar) ∧ w.cell? ⟨g, o + k * 4 + 3, none⟩ = some (.slice l[k].A l[k].v.ls.length l[k].c) := by
  obtain ⟨g, o, e, _, h0, h1, h2, h3⟩ := h.1 k hk
  exact ⟨g, o, e, h0, h1, h2, h3⟩

set_option maxRecDepth 100000 in
set_option maxHeartbeats 8000000 in
theorem mixed_seq (Bf Bv : Nat) (Af Av : Option Addr) (cf cv : Nat) (lf lv : List VI) (w : World) (hBf : w.cell? ⟨Bf, 0, none⟩ = some (.slice Af lf.length cf)) (hBv : w.cell? ⟨Bv, 0, none⟩ = some (.slice Av lv.length cv))
    (hF : VarsP w (fun _ => True) Af lf) (hV : VarsP w (fun _ => True) Av lv) (hn : ((itemsOf lf hF).map nmI).Nodup) (hsz : (lf.length + lv.length) * 64 ≤ 140737488355328) :
    SeqB Fence.wide 8 Tryz.prog 53 #[.pointer (some ⟨Bf, 0, none⟩), .pointer (some ⟨Bv, 0, none⟩)] (fun x : Itm w => encVI x.1) (KpC w.heap.size) (fun xs => xs = mixL nmI (itemsOf lv hV) (itemsOf lf hF)) (lv.length + lf.length) w := fun lp J W hW hJ hY h0 => by
  have hBfl := World.block_lt_of_cell? w _ hBf
  have hBvl := World.block_lt_of_cell? w _ hBv
  obtain ⟨F, hFe, lenF, getF⟩ : ∃ F, itemsOf lf hF = F ∧ F.length = lf.length ∧ ∀ k (_ : k < F.length) (_ : k < lf.length), F[k].1 = lf[k] := ⟨_, rfl, itemsOf_len lf hF, fun k hk _ => itemsOf_get lf hF k hk⟩
  obtain ⟨V, hVe, lenV, getV⟩ : ∃ V, itemsOf lv hV = V ∧ V.length = lv.length ∧ ∀ k (_ : k < V.length) (_ : k < lv.length), V[k].1 = lv[k] := ⟨_, rfl, itemsOf_len lv hV, fun k hk _ => itemsOf_get lv hV k hk⟩
  have hmix := mixL_len nmI V F
  rw [hFe] at hn
  rw [hFe, hVe]
  have HLF := hid lenF
  have HLV := hid lenV
  have HMX := hid hmix
  clear hFe hVe lenF lenV hmix
  refine callsIn_of_wp Tryz.func53 rfl trivial ?_ rfl
  simp only [Tryz.ntmps53, List.size_toArray, List.length_cons, List.length_nil, Nat.reduceAdd, Nat.reduceSub, Array.replicate_succ, Array.replicate_zero, List.push_toArray, List.append_toArray, List.nil_append, List.cons_append]
  have hal0 : Below W.heap.size W (W.alloc (.map #[] 0)) := (Below.refl _ _).alloc (Nat.le_refl _) _
  have hB0 : Below w.heap.size w (W.alloc (.map #[] 0)) := hW.trans (hal0.mono hW.size)
  have hJ0 : J [] (W.alloc (.map #[] 0)) := hJ _ _ _ none h0 (World.grownBy_alloc W _ none) (fun r e => by cases e)
  have hM0 : MapV (W.alloc (.map #[] 0)) W.heap.size 0 (placeF F 0) := by rw [placeF_zero]; exact MapV.made W
  have hs0 : W.heap.size ≤ (W.alloc (.map #[] 0)).heap.size := hal0.size
  have cf0 := (hB0.cell (p := ⟨Bf, 0, none⟩) hBfl).trans hBf
  have hmm := @run_makeMap Tryz.prog
  gi_wp2
  clear cf0
  gi_loopw [17] (fun i wr => ∃ k n : Nat, k ≤ lf.length ∧ n ≤ k ∧ i = .int .i64 k ∧ J [] wr ∧ MapV wr W.heap.size n (placeF F k) ∧ Below w.heap.size w wr ∧ W.heap.size ≤ wr.heap.size) (fun i _ => lf.length - (intOf i).toNat)
  case atStart => exact ⟨0, 0, Nat.zero_le _, Nat.le_refl _, rfl, hJ0, hM0, hB0, hs0⟩
  case round =>
    obtain ⟨k, n, hk, hnk, rfl, hJs, hMs, hB, hWs⟩ := hrel
    clear hJ0 hM0 hB0 hs0 hal0
    by_cases hlt : k < lf.length
    · obtain ⟨g, o, rfl, d0, d1, d2, d3⟩ := boxV_at hF k hlt
      have e0 := (hB.cell (p := ⟨g, o + k * 4, none⟩) (World.block_lt_of_cell? w _ d0)).trans d0
      have e1 := (hB.cell (p := ⟨g, o + k * 4 + 1, none⟩) (World.block_lt_of_cell? w _ d1)).trans d1
      have e2 := (hB.cell (p := ⟨g, o + k * 4 + 2, none⟩) (World.block_lt_of_cell? w _ d2)).trans d2
      have e3 := (hB.cell (p := ⟨g, o + k * 4 + 3, none⟩) (World.block_lt_of_cell? w _ d3)).trans d3
      have hlt' : k < F.length := by rw [HLF.out]; exact hlt
      have hal : Below wr.heap.size wr (wr.alloc (.cells (cellsV lf[k]).toArray 34)) := (Below.refl _ _).alloc (Nat.le_refl _) _
      have hJa := hJ _ _ _ none hJs (World.grownBy_alloc wr (.cells (cellsV lf[k]).toArray 34) none) (fun r e => by cases e)
      have hMa := hMs.block (Below.heap_alloc wr (.cells (cellsV lf[k]).toArray 34) _ hMs.lt)
      have hnm := (hF.2 _ (List.getElem_mem hlt)).2.nm
      have hX : Var4' (wr.alloc (.cells (cellsV lf[k]).toArray 34)) wr.heap.size (.string ⟨lf[k].v.nm.toArray⟩) (.string ⟨lf[k].v.tx.toArray⟩) (.bool lf[k].v.ar) (.slice lf[k].A lf[k].v.ls.length lf[k].c) := heap_alloc_new _ _
      have x0 := hX.a0
      have HST := placeF_step F hn k hlt'
      rw [show nmI F[k] = lf[k].v.nm by show F[k].1.v.nm = _; rw [getF k hlt' hlt]] at HST
      have HST := hid HST
      have hBa := hB.trans (hal.mono hB.size)
      have hsa : W.heap.size ≤ (wr.alloc (.cells (cellsV lf[k]).toArray 34)).heap.size := Nat.le_trans hWs hal.size
      simp only [cellsV] at x0 hMa hBa hJa hsa
      have HB := hid (And.intro hBa (And.intro hJa hsa))
      clear hJa hX hal hBa hsa d0 d1 d2 d3 hJs hMs hB
      gi_wp2_with (gi_at_mapUpdate; refine wpListIn_mapUpdate_v rfl _ _ _ _ _ rfl Tryz.underlying89 W.heap.size n (placeF F k) rfl hMa (by unfold maxLen; omega) lf[k].v.nm (.int .i64 k) rfl rfl (by unfold maxLen; omega) ?_; intro w5 hM hg)
      rw [HST.out] at hM
      have hM5 := hM.mono (show _ ≤ n + 1 by split <;> omega)
      obtain ⟨es, cl, hes⟩ := hMa.obj
      have hJ5 := hJ _ _ _ (some W.heap.size) HB.out.2.1 hg (fun r e => by cases e; exact ⟨Nat.le_refl _, _, hes, rfl⟩)
      have hB5 : Below w.heap.size w w5 := HB.out.1.grown hg HB.out.1.size (fun j e => by cases e; exact hW.size)
      have hs5 : W.heap.size ≤ w5.heap.size := Nat.le_trans HB.out.2.2 (by have := hg.size; omega)
      have HF5 := hid (And.intro hM5 (And.intro hJ5 (And.intro hB5 hs5)))
      clear hM hM5 hJ5 hB5 hs5 hg hes hMa x0 e0 e1 e2 e3 hF hV hBf hBv
      gi_wp2
      go_roundw
      case rel => exact ⟨k + 1, n + 1, by omega, by omega, by go_num, HF5.out.2.1, HF5.out.1, HF5.out.2.2.1, HF5.out.2.2.2⟩
      case measure => simp [intOf]; omega
    · obtain rfl : k = lf.length := by omega
      have hMs := hMs.mono hnk
      have cf1 := (hB.cell (p := ⟨Bf, 0, none⟩) hBfl).trans hBf
      have hal1 : Below wr.heap.size wr (wr.alloc (.cells (madeCells #[.bool false] lf.length) 4)) := (Below.refl _ _).alloc (Nat.le_refl _) _
      have hO1 := OutAt.made wr lf.length
      have hJ1 := hJ _ _ _ none hJs (World.grownBy_alloc wr (.cells (madeCells #[.bool false] lf.length) 4) none) (fun r e => by cases e)
      have hM1 := hMs.block (Below.heap_alloc wr (.cells (madeCells #[.bool false] lf.length) 4) _ hMs.lt)
      have hB1 := hB.trans (hal1.mono hB.size)
      have hs1 : W.heap.size ≤ (wr.alloc (.cells (madeCells #[.bool false] lf.length) 4)).heap.size := Nat.le_trans hWs hal1.size
      have cv1 := (hB1.cell (p := ⟨Bv, 0, none⟩) hBvl).trans hBv
      obtain ⟨b, hb⟩ : ∃ b, wr.heap.size = b := ⟨_, rfl⟩
      have hbN : w.heap.size ≤ b := by have := hB.size; omega
      rw [hb] at hO1 hWs
      have HPF : Hid (∀ s, placeF F lf.length s = (placeOf nmI F s).map fun i : Nat => .int .i64 (i : Int)) := hid fun s => by rw [← HLF.out]; exact placeF_all F s
      generalize placeF F lf.length = pf at *
      obtain ⟨W2, hW2⟩ : ∃ W2, wr.alloc (.cells (madeCells #[.bool false] lf.length) 4) = W2 := ⟨_, rfl⟩
      rw [hW2] at hal1 hO1 hJ1 hM1 hB1 hs1 cv1
      have HW2 := hid hW2
      have Hb := hid hb
      clear hJs hMs hB hal1 hmm hW2 hb
      gi_wp2_with (gi_at_make; refine wpListIn_make_row rfl _ _ _ rfl 4 (.bool false) 1 Tryz.underlying90 info_bool rfl .i64 .i64 lf.length rfl rfl (by omega) (by omega) ?_; rw [HW2.out, Hb.out])
      clear cf1 cv1
      gi_loopw [32] (fun i wr => ∃ (k : Nat) (ob : List Bool) (pre : List (Itm w)), k ≤ lv.length ∧ ob.length = lf.length ∧ i = .int .i64 k ∧ Hid (pre ++ mixGo nmI F ob (V.drop k) = mixL nmI V F) ∧ J pre wr ∧ MapV wr W.heap.size lf.length pf ∧ OutAt wr b ob ∧ Below w.heap.size w wr) (fun i _ => lv.length - (intOf i).toNat)
      case atStart => exact ⟨0, List.replicate lf.length false, [], Nat.zero_le _, by simp, rfl, hid (by rw [← HLF.out]; rfl), hJ1, hM1, hO1, hB1⟩
      case round =>
        clear hJ1 hM1 hO1 hB1 hs1 HW2 Hb hMs
        obtain ⟨k, ob, pre, hk, hob, rfl, HPRE, hJs, hMs, hO, hB⟩ := hrel
        have hbl := hO.lt
        by_cases hlt : k < lv.length
        · obtain ⟨g, o, rfl, d0, d1, d2, d3⟩ := boxV_at hV k hlt
          have e0 := (hB.cell (p := ⟨g, o + k * 4, none⟩) (World.block_lt_of_cell? w _ d0)).trans d0
          have e1 := (hB.cell (p := ⟨g, o + k * 4 + 1, none⟩) (World.block_lt_of_cell? w _ d1)).trans d1
          have e2 := (hB.cell (p := ⟨g, o + k * 4 + 2, none⟩) (World.block_lt_of_cell? w _ d2)).trans d2
          have e3 := (hB.cell (p := ⟨g, o + k * 4 + 3, none⟩) (World.block_lt_of_cell? w _ d3)).trans d3
          have hlt' : k < V.length := by rw [HLV.out]; exact hlt
          have hVk := getV k hlt' hlt
          have hdrop : V.drop k = V[k] :: V.drop (k + 1) := List.drop_eq_getElem_cons hlt'
          have HPR := HPRE.out
          rw [hdrop] at HPR
          have hnV : nmI V[k] = lv[k].v.nm := by show V[k].1.v.nm = _; rw [hVk]
          have hal : Below wr.heap.size wr (wr.alloc (.cells (cellsV lv[k]).toArray 34)) := (Below.refl _ _).alloc (Nat.le_refl _) _
          have hJa := hJ _ _ _ none hJs (World.grownBy_alloc wr (.cells (cellsV lv[k]).toArray 34) none) (fun r e => by cases e)
          have hMa := hMs.block (Below.heap_alloc wr (.cells (cellsV lv[k]).toArray 34) _ hMs.lt)
          have hOa := hO.block (Below.heap_alloc wr (.cells (cellsV lv[k]).toArray 34) _ hO.lt)
          have hnm := (hV.2 _ (List.getElem_mem hlt)).2.nm
          have hX : Var4' (wr.alloc (.cells (cellsV lv[k]).toArray 34)) wr.heap.size (.string ⟨lv[k].v.nm.toArray⟩) (.string ⟨lv[k].v.tx.toArray⟩) (.bool lv[k].v.ar) (.slice lv[k].A lv[k].v.ls.length lv[k].c) := heap_alloc_new _ _
          have x0 := hX.a0; have x1 := hX.a1; have x2 := hX.a2; have x3 := hX.a3
          have hBa := hB.trans (hal.mono hB.size)
          have hpl : ∀ (pre : List (Itm w)) (x : Itm w) (r : List (Itm w)), pre ++ x :: r = mixL nmI V F → pre.length < lv.length + lf.length := fun pre x r e => by
            have h1 := HMX.out
            rw [← e, HLV.out, HLF.out, List.length_append, List.length_cons] at h1
            omega
          cases hp : placeOf nmI F (nmI V[k]) with
          | none =>
            have HL : pf lv[k].v.nm = none := by rw [HPF.out, ← hnV, hp]; rfl
            have HPN : pre ++ V[k] :: mixGo nmI F ob (V.drop (k + 1)) = mixL nmI V F := by rw [← HPR, mixGo, hp]
            obtain ⟨fn, tmps, assign, body, hy, hR⟩ := hY pre V[k] _ hJa (hpl _ _ _ HPN)
            try dsimp only at hy
            rw [hVk] at hy
            simp only [cellsV] at hy x0 x1 x2 x3 hR hBa hMa hOa
            have HPN := hid HPN
            have HS := hid (And.intro hBa hOa)
            clear hJa hX hal d0 d1 d2 d3 hBa hp HPR HPRE hdrop hOa hnV hVk
            gi_wp2_with (gi_at_lookup; refine wpListIn_lookup_v rfl _ _ _ _ true rfl Tryz.underlying89 (.int .i64 0) (zero_int _) W.heap.size lf.length pf rfl hMa lv[k].v.nm rfl (by unfold maxLen; omega) ?_; rw [HL]; simp only [if_true, Option.getD_none, Option.isSome_none])
            refine hR.mono ?_
            rintro e W3 ⟨rfl, hJ3, hk3⟩
            have HK := hid (And.intro hk3 (And.intro hJ3 (And.intro (hMa.fine hk3) (HS.out.2.fine hk3))))
            clear hJ3 hk3 x0 x1 x2 x3 hMa hMs hO hJs
            gi_wp2
            go_roundw
            case rel => exact ⟨k + 1, ob, pre ++ [V[k]], by omega, hob, by go_num, hid (by rw [List.append_assoc]; exact HPN.out), HK.out.2.1, HK.out.2.2.1, HK.out.2.2.2, HS.out.1.trans HK.out.1.below⟩
            case measure => simp [intOf]; omega
          | some i =>
            obtain ⟨hi, hin⟩ := placeOf_some hp
            have hil : i < lf.length := by rw [← HLF.out]; exact hi
            have hio : i < ob.length := by omega
            have HL : pf lv[k].v.nm = some (.int .i64 (i : Int)) := by rw [HPF.out, ← hnV, hp]; rfl
            have oc := hOa.cell i hio
            have hFi := getF i hi hil
            have cfa := (hBa.cell (p := ⟨Bf, 0, none⟩) hBfl).trans hBf
            cases hobi : ob[i] with
            | true =>
              have HPN : pre ++ mixGo nmI F ob (V.drop (k + 1)) = mixL nmI V F := by rw [← HPR, mixGo, hp]; simp [List.getD, hio, hobi]
              rw [hobi] at oc
              simp only [cellsV] at x0 hBa hMa hOa hJa oc cfa
              have HPN := hid HPN
              have HS := hid (And.intro hBa (And.intro hOa (And.intro hJa hMa)))
              clear hJa hX hal d0 d1 d2 d3 hBa hp HPR HPRE hdrop hOa hnV hVk x1 x2 x3 hFi hin hobi hJs hMs hO cfa
              gi_wp2_with (gi_at_lookup; refine wpListIn_lookup_v rfl _ _ _ _ true rfl Tryz.underlying89 (.int .i64 0) (zero_int _) W.heap.size lf.length pf rfl hMa lv[k].v.nm rfl (by unfold maxLen; omega) ?_; rw [HL]; simp only [if_true, Option.getD_some, Option.isSome_some])
              clear hMa
              go_roundw
              case rel => exact ⟨k + 1, ob, pre, by omega, hob, by go_num, hid HPN.out, HS.out.2.2.1, HS.out.2.2.2, HS.out.2.1, HS.out.1⟩
              case measure => simp [intOf]; omega
            | false =>
              have HPN : pre ++ F[i] :: mixGo nmI F (ob.set i true) (V.drop (k + 1)) = mixL nmI V F := by
                rw [← HPR, mixGo, hp]
                simp [List.getD, hio, hobi, hi]
              rw [hobi] at oc
              obtain ⟨g2, o2, rfl, p0, p1, p2, p3⟩ := boxV_at hF i hil
              have q0 := (hBa.cell (p := ⟨g2, o2 + i * 4, none⟩) (World.block_lt_of_cell? w _ p0)).trans p0
              have q1 := (hBa.cell (p := ⟨g2, o2 + i * 4 + 1, none⟩) (World.block_lt_of_cell? w _ p1)).trans p1
              have q2 := (hBa.cell (p := ⟨g2, o2 + i * 4 + 2, none⟩) (World.block_lt_of_cell? w _ p2)).trans p2
              have q3 := (hBa.cell (p := ⟨g2, o2 + i * 4 + 3, none⟩) (World.block_lt_of_cell? w _ p3)).trans p3
              have f0 := hX.free 0; have f1 := hX.free 1; have f2 := hX.free 2; have f3 := hX.free 3
              have fo := hOa.free i
              have hne : b ≠ wr.heap.size := by omega
              have hne2 : wr.heap.size ≠ b := by omega
              have hJu : J pre (UU wr lv[k] lf[i] b i) := by
                rw [UU_eq]
                have hOy := hO.block (Below.heap_alloc wr (.cells (cellsV lf[i]).toArray 34) _ hO.lt)
                exact hJ _ _ _ (some b) (hJ _ _ _ none hJs (World.grownBy_alloc wr (.cells (cellsV lf[i]).toArray 34) none) (fun r e => by cases e)) (grownBy_setK _ _ _ _) (fun r e => by cases e; exact ⟨hWs, _, hOy, rfl⟩)
              obtain ⟨u1, u2, u3, u4⟩ := UU_facts (i := i) lv[k] lf[i] hO hMs hB hbN
              have y0 := u4.a0; have y1 := u4.a1; have y2 := u4.a2; have y3 := u4.a3
              obtain ⟨fn, tmps, assign, body, hy, hR⟩ := hY pre F[i] _ hJu (hpl _ _ _ HPN)
              rw [hFi] at hy
              try dsimp only [UU] at hy hR y0 y1 y2 y3
              have e4 := alloc_set4 wr (.string ⟨lv[k].v.nm.toArray⟩) (.string ⟨lv[k].v.tx.toArray⟩) (.bool lv[k].v.ar) (.slice lv[k].A lv[k].v.ls.length lv[k].c) (.string ⟨lf[i].v.nm.toArray⟩) (.string ⟨lf[i].v.tx.toArray⟩) (.bool lf[i].v.ar) (.slice lf[i].A lf[i].v.ls.length lf[i].c) 34
              have hO4 : OutAt (wr.alloc (.cells #[.string ⟨lf[i].v.nm.toArray⟩, .string ⟨lf[i].v.tx.toArray⟩, .bool lf[i].v.ar, .slice lf[i].A lf[i].v.ls.length lf[i].c] 34)) b ob := hO.block (Below.heap_alloc _ _ _ hO.lt)
              simp only [cellsV] at x0 hMa oc cfa q0 q1 q2 q3 f0 f1 f2 f3
              have HS := hid (And.intro u1 (And.intro u2 u3))
              dsimp only [UU] at HS
              rw [e4] at HS hy hR y0 y1 y2 y3
              obtain ⟨W4, hW4⟩ : ∃ W4, wr.alloc (.cells #[.string ⟨lf[i].v.nm.toArray⟩, .string ⟨lf[i].v.tx.toArray⟩, .bool lf[i].v.ar, .slice lf[i].A lf[i].v.ls.length lf[i].c] 34) = W4 := ⟨_, rfl⟩
              rw [hW4] at hO4 HS hy hR y0 y1 y2 y3
              have HW4 := hid hW4
              have oc4 := hO4.cell i hio
              have fo4 := hO4.free i
              obtain ⟨W5, hW5⟩ : ∃ W5, W4.setCell ⟨b, i, none⟩ (.bool true) = W5 := ⟨_, rfl⟩
              rw [hW5] at HS hy hR y0 y1 y2 y3
              have HW5 := hid hW5
              have HPN := hid HPN
              clear hJa hX hal d0 d1 d2 d3 hBa hp HPR HPRE hdrop hOa hnV hVk x1 x2 x3 hin hobi hJs hMs hO p0 p1 p2 p3 u1 u2 u3 u4 hJu hFi e4 hO4 hW4 hW5
              have c4 : W4.cell? ⟨b, i, none⟩ = some (.bool ob[i]) := oc4
              clear oc4
              gi_wp2_with (first
                | (gi_at_lookup; refine wpListIn_lookup_v rfl _ _ _ _ true rfl Tryz.underlying89 (.int .i64 0) (zero_int _) W.heap.size lf.length pf rfl hMa lv[k].v.nm rfl (by unfold maxLen; omega) ?_; rw [HL]; simp only [if_true, Option.getD_some, Option.isSome_some])
                | (rw [HW4.out])
                | (rw [HW5.out]))
              refine hR.mono ?_
              rintro e W3 ⟨rfl, hJ3, hk3⟩
              have HK := hid (And.intro hk3 (And.intro hJ3 (And.intro (HS.out.2.1.fine hk3) (HS.out.1.fine hk3))))
              clear hJ3 hk3 x0 y0 y1 y2 y3 q0 q1 q2 q3 f0 f1 f2 f3 fo oc cfa hMa e0 e1 e2 e3 c4 fo4
              gi_wp2
              go_roundw
              case rel => exact ⟨k + 1, ob.set i true, pre ++ [F[i]], by omega, by rw [List.length_set]; exact hob, by go_num, hid (by rw [List.append_assoc]; exact HPN.out), HK.out.2.1, HK.out.2.2.1, HK.out.2.2.2, HS.out.2.2.trans HK.out.1.below⟩
              case measure => simp [intOf]; omega
        · obtain rfl : k = lv.length := by omega
          have HPR : pre ++ ((F.zip ob).filter fun p => !p.2).map Prod.fst = mixL nmI V F := by
            have h1 := HPRE.out
            rw [List.drop_of_length_le (by rw [HLV.out]; exact Nat.le_refl _), mixGo] at h1
            exact h1
          have HPR := hid HPR
          have cf2 := (hB.cell (p := ⟨Bf, 0, none⟩) hBfl).trans hBf
          clear HPRE hMs HPF
          gi_wp2
          clear cf2
          gi_loopw [62] (fun i wr => ∃ (k : Nat) (pre : List (Itm w)), k ≤ lf.length ∧ i = .int .i64 k ∧ Hid (pre ++ (((F.zip ob).drop k).filter fun p => !p.2).map Prod.fst = mixL nmI V F) ∧ J pre wr ∧ OutAt wr b ob ∧ Below w.heap.size w wr) (fun i _ => lf.length - (intOf i).toNat)
          case atStart => exact ⟨0, pre, Nat.zero_le _, rfl, HPR, hJs, hO, hB⟩
          case round =>
            clear hJs hO hB HPR hbl hlt
            obtain ⟨k, pre, hk, rfl, HPRE, hJs, hO, hB⟩ := hrel
            by_cases hlt : k < lf.length
            · obtain ⟨g, o, rfl, d0, d1, d2, d3⟩ := boxV_at hF k hlt
              have e0 := (hB.cell (p := ⟨g, o + k * 4, none⟩) (World.block_lt_of_cell? w _ d0)).trans d0
              have e1 := (hB.cell (p := ⟨g, o + k * 4 + 1, none⟩) (World.block_lt_of_cell? w _ d1)).trans d1
              have e2 := (hB.cell (p := ⟨g, o + k * 4 + 2, none⟩) (World.block_lt_of_cell? w _ d2)).trans d2
              have e3 := (hB.cell (p := ⟨g, o + k * 4 + 3, none⟩) (World.block_lt_of_cell? w _ d3)).trans d3
              have hlt' : k < F.length := by rw [HLF.out]; exact hlt
              have hlo : k < ob.length := by omega
              have hFk := getF k hlt' hlt
              have hz : k < (F.zip ob).length := by rw [List.length_zip]; omega
              have hdrop : (F.zip ob).drop k = (F[k], ob[k]) :: (F.zip ob).drop (k + 1) := by
                rw [List.drop_eq_getElem_cons hz, List.getElem_zip]
              have HPR := HPRE.out
              rw [hdrop, List.filter_cons] at HPR
              have hal : Below wr.heap.size wr (wr.alloc (.cells (cellsV lf[k]).toArray 34)) := (Below.refl _ _).alloc (Nat.le_refl _) _
              have hJa := hJ _ _ _ none hJs (World.grownBy_alloc wr (.cells (cellsV lf[k]).toArray 34) none) (fun r e => by cases e)
              have hOa := hO.block (Below.heap_alloc wr (.cells (cellsV lf[k]).toArray 34) _ hO.lt)
              have hX : Var4' (wr.alloc (.cells (cellsV lf[k]).toArray 34)) wr.heap.size (.string ⟨lf[k].v.nm.toArray⟩) (.string ⟨lf[k].v.tx.toArray⟩) (.bool lf[k].v.ar) (.slice lf[k].A lf[k].v.ls.length lf[k].c) := heap_alloc_new _ _
              have x0 := hX.a0; have x1 := hX.a1; have x2 := hX.a2; have x3 := hX.a3
              have hBa := hB.trans (hal.mono hB.size)
              have oc := hOa.cell k hlo
              cases hobk : ob[k] with
              | true =>
                rw [hobk] at HPR oc
                have HPN : Hid (pre ++ (((F.zip ob).drop (k + 1)).filter fun p => !p.2).map Prod.fst = mixL nmI V F) := hid HPR
                simp only [cellsV] at oc hBa hOa hJa
                have HS := hid (And.intro hBa (And.intro hOa hJa))
                clear hJa hX hal d0 d1 d2 d3 hBa HPR HPRE hdrop hOa x0 x1 x2 x3 hFk hobk hJs hO hz
                gi_wp2
                refine ⟨fun f e => by (cases e), ?_⟩
                gi_wp2
                go_roundw
                case rel => exact ⟨k + 1, pre, by omega, by go_num, HPN, HS.out.2.2, HS.out.2.1, HS.out.1⟩
                case measure => simp [intOf]; omega
              | false =>
                rw [hobk] at HPR oc
                have HPN : pre ++ F[k] :: (((F.zip ob).drop (k + 1)).filter fun p => !p.2).map Prod.fst = mixL nmI V F := HPR
                have hpl : pre.length < lv.length + lf.length := by
                  have h1 := HMX.out
                  rw [← HPN, HLV.out, HLF.out, List.length_append, List.length_cons] at h1
                  omega
                obtain ⟨fn, tmps, assign, body, hy, hR⟩ := hY pre F[k] _ hJa hpl
                try dsimp only at hy
                rw [hFk] at hy
                simp only [cellsV] at oc hBa hOa hJa hy hR x0 x1 x2 x3
                have HPN := hid HPN
                have HS := hid (And.intro hBa hOa)
                clear hJa hX hal d0 d1 d2 d3 hBa HPR HPRE hdrop hOa hFk hobk hJs hO hz
                gi_wp2
                refine hR.mono ?_
                rintro e W3 ⟨rfl, hJ3, hk3⟩
                have HK := hid (And.intro hk3 (And.intro hJ3 (HS.out.2.fine hk3)))
                clear hJ3 hk3 x0 x1 x2 x3 oc
                gi_wp2
                go_roundw
                case rel => exact ⟨k + 1, pre ++ [F[k]], by omega, by go_num, hid (by rw [List.append_assoc]; exact HPN.out), HK.out.2.1, HK.out.2.2, HS.out.1.trans HK.out.1.below⟩
                case measure => simp [intOf]; omega
            · obtain rfl : k = lf.length := by omega
              have HP : pre = mixL nmI V F := by
                have h1 := HPRE.out
                rw [List.drop_of_length_le (by rw [List.length_zip, HLF.out]; omega)] at h1
                simpa using h1
              rw [HP] at hJs
              clear HP HPRE
              gi_wp2
              go_end0
              exact ⟨⟨_, rfl⟩, _, rfl, hJs⟩
end Go.Proofs.YthgmilllinbcjaaGreatDoor
namespace Go.Proofs.YthgmilllinbcjaaGreatDoor
open Go.RowKit
open Go.Lib (hid)

theorem enters_values : ∀ args w, (callFunc 44 args).run Tryz.prog w = .ok (.enter 44 args) w := enters_of Tryz.func44 (by kernel_rfl) rfl
theorem enters_mixed : ∀ args w, (callFunc 53 args).run Tryz.prog w = .ok (.enter 53 args) w := enters_of Tryz.func53 (by kernel_rfl) rfl

abbrev WVal (w : World) (A : Option Addr) (n c : Nat) : World := w.alloc (.cells #[.slice A n c] 25)
theorem copies_values (A : Option Addr) (c : Nat) (l : List VI) (w : World) (hV : VarsP w (fun _ => True) A l) (hsz : l.length * 64 ≤ 140737488355328) :
    Calls Tryz.prog 23 #[.func (.func 44) #[] #[.pointer (some ⟨w.heap.size, 0, none⟩)]] (WVal w A l.length c) fun e w' => ∃ A' c' ys, e = .returned (.slice A' ys.length c') ∧ VarsP w' (fun g => w.heap.size ≤ g) A' ys ∧ ys.map (·.v) = l.map (·.v) ∧ Below w.heap.size w w' := by
  have hal : Below w.heap.size w (WVal w A l.length c) := (Below.refl _ _).alloc (Nat.le_refl _) _
  have hV1 := hV.below hal
  have hb : (WVal w A l.length c).cell? ⟨w.heap.size, 0, none⟩ = some (.slice A l.length c) := cell_of_one (heap_alloc_new w _)
  have hs := SeqB.of_stops (values_stops w.heap.size A c l _ hb hV1 hsz)
  refine (copies_any _ _ enters_values _ (itemsOf l hV1) l.length hsz hs).mono ?_
  rintro e w' ⟨A', c', ys, h1, h2, h3, h4⟩
  refine ⟨A', c', ys, h1, h2.frame fun g _ hp => ⟨?_, rfl⟩, h3.trans (itemsOf_v l hV1), hal.trans (h4.mono hal.size)⟩
  have := hal.size
  omega

abbrev WMix (w : World) (Av Af : Option Addr) (nv cv nf cf : Nat) : World := (w.alloc (.cells #[.slice Av nv cv] 25)).alloc (.cells #[.slice Af nf cf] 25)
theorem copies_mixed (Av Af : Option Addr) (cv cf : Nat) (lv lf : List VI) (w : World) (hV : VarsP w (fun _ => True) Av lv) (hF : VarsP w (fun _ => True) Af lf) (hn : (lf.map (·.v.nm)).Nodup) (hsz : (lf.length + lv.length) * 64 ≤ 140737488355328) :
    Calls Tryz.prog 23 #[.func (.func 53) #[] #[.pointer (some ⟨w.heap.size + 1, 0, none⟩), .pointer (some ⟨w.heap.size, 0, none⟩)]] (WMix w Av Af lv.length cv lf.length cf) fun e w' => ∃ A' c' ys, e = .returned (.slice A' ys.length c') ∧ VarsP w' (fun g => w.heap.size ≤ g) A' ys ∧ ys.map (·.v) = mixL V.nm (lv.map (·.v)) (lf.map (·.v)) ∧ Below w.heap.size w w' := by
  have hal : Below w.heap.size w (WMix w Av Af lv.length cv lf.length cf) := ((Below.refl _ _).alloc (Nat.le_refl _) _).alloc (by simp) _
  have hV1 := hV.below hal
  have hF1 := hF.below hal
  have hbf : (WMix w Av Af lv.length cv lf.length cf).cell? ⟨w.heap.size + 1, 0, none⟩ = some (.slice Af lf.length cf) := by
    have := cell_of_one (heap_alloc_new (w.alloc (.cells #[.slice Av lv.length cv] 25)) (.cells #[.slice Af lf.length cf] 25))
    rw [World.size_alloc] at this
    exact this
  have hbv : (WMix w Av Af lv.length cv lf.length cf).cell? ⟨w.heap.size, 0, none⟩ = some (.slice Av lv.length cv) :=
    cell_of_one ((Below.heap_alloc _ _ _ (by simp)).trans (heap_alloc_new w (.cells #[.slice Av lv.length cv] 25)))
  have hn1 : ((itemsOf lf hF1).map nmI).Nodup := by
    have : (itemsOf lf hF1).map nmI = lf.map (·.v.nm) := by
      have h := congrArg (List.map V.nm) (itemsOf_v lf hF1)
      rw [List.map_map, List.map_map] at h
      exact h
    rw [this]; exact hn
  have hs := mixed_seq (w.heap.size + 1) w.heap.size Af Av cf cv lf lv _ hbf hbv hF1 hV1 hn1 hsz
  refine (copies_any _ _ enters_mixed _ (mixL nmI (itemsOf lv hV1) (itemsOf lf hF1)) (lv.length + lf.length) (by omega) hs).mono ?_
  rintro e w' ⟨A', c', ys, h1, h2, h3, h4⟩
  refine ⟨A', c', ys, h1, h2.frame fun g _ hp => ⟨?_, rfl⟩, h3.trans ?_, hal.trans (h4.mono hal.size)⟩
  · have := hal.size
    omega
  · rw [← itemsOf_v lv hV1, ← itemsOf_v lf hF1]
    exact mixL_map (fun x : Itm (WMix w Av Af lv.length cv lf.length cf) => x.1.v) V.nm _ _

theorem mixed_any (Av Af : Option Addr) (nv cv nf cf : Nat) (w : World) :
    Calls Tryz.prog 28 #[.slice Av nv cv, .slice Af nf cf] w fun e w' => e = .returned (.func (.func 53) #[] #[.pointer (some ⟨w.heap.size + 1, 0, none⟩), .pointer (some ⟨w.heap.size, 0, none⟩)]) ∧ w' = WMix w Av Af nv cv nf cf := by
  go_enter Tryz.func28, Tryz.ntmps28
  go_wp2_with fail
  go_ret
  exact ⟨rfl, rfl⟩

set_option maxHeartbeats 2000000 in
theorem put_any (Av : Option Addr) (cv : Nat) (lv : List VI) (v : VI) (w : World) (hV : VarsP w (fun _ => True) Av lv) (hv : ItemP w (fun _ => True) v) (hsz : (1 + lv.length) * 64 ≤ 140737488355328) :
    Calls Tryz.prog 15 #[.slice Av lv.length cv, encVI v] w fun e w' => ∃ A' c' ys, e = .returned (.slice A' ys.length c') ∧ VarsP w' (fun g => w.heap.size ≤ g) A' ys ∧ ys.map (·.v) = mixL V.nm (lv.map (·.v)) [v.v] ∧ Below w.heap.size w w' := by
  have hal : Below w.heap.size w ((w.alloc (.cells (cellsV v).toArray 34)).alloc (.cells (cellsV v).toArray 34)) := ((Below.refl _ _).alloc (Nat.le_refl _) _).alloc (by simp) _
  have hX : Var4' (w.alloc (.cells (cellsV v).toArray 34)) w.heap.size (.string ⟨v.v.nm.toArray⟩) (.string ⟨v.v.tx.toArray⟩) (.bool v.v.ar) (.slice v.A v.v.ls.length v.c) := heap_alloc_new _ _
  have x0 := hX.a0; have x1 := hX.a1; have x2 := hX.a2; have x3 := hX.a3
  have hF : VarsP ((w.alloc (.cells (cellsV v).toArray 34)).alloc (.cells (cellsV v).toArray 34)) (fun _ => True) (some ⟨w.heap.size + 1, 0, none⟩) [v] := by
    have h4 : Var4' ((w.alloc (.cells (cellsV v).toArray 34)).alloc (.cells (cellsV v).toArray 34)) (w.heap.size + 1) (.string ⟨v.v.nm.toArray⟩) (.string ⟨v.v.tx.toArray⟩) (.bool v.v.ar) (.slice v.A v.v.ls.length v.c) := by
      have := heap_alloc_new (w.alloc (.cells (cellsV v).toArray 34)) (.cells (cellsV v).toArray 34)
      unfold Var4'
      simpa [cellsV] using this
    refine ⟨fun k hk => ?_, fun x hx => ?_⟩
    · obtain rfl : k = 0 := by simpa using hk
      exact ⟨_, _, rfl, trivial, by simpa using h4.a0, by simpa using h4.a1, by simpa using h4.a2, by simpa using h4.a3⟩
    · obtain rfl : x = v := by simpa using hx
      exact hv.below hal
  have hV1 := hV.below hal
  have cM := copies_mixed Av (some ⟨w.heap.size + 1, 0, none⟩) cv 1 lv [v] _ hV1 hF (by simp) hsz
  have cX := mixed_any Av (some ⟨w.heap.size + 1, 0, none⟩) lv.length cv 1 1 ((w.alloc (.cells (cellsV v).toArray 34)).alloc (.cells (cellsV v).toArray 34))
  have HA := hid hal
  simp only [cellsV, World.size_alloc] at x0 x1 x2 x3 cM cX
  clear hX hF hV1 hal
  go_enter Tryz.func15, Tryz.ntmps15
  go_wp2_with (first
    | (go_at_call 28; (with_reducible refine cX.mono ?_); rintro e w1 ⟨rfl, rfl⟩)
    | (go_at_call 23; go_loud (refine cM.mono ?_); rintro e w2 ⟨A', c', ys, rfl, h2, h3, h4⟩; have HR := hid (And.intro h2 (And.intro h3 h4)); clear h2 h3 h4))
  go_ret
  refine ⟨A', c', ys, rfl, HR.out.1.frame fun g _ hp => ⟨by omega, rfl⟩, HR.out.2.1, HA.out.trans (HR.out.2.2.mono (by omega))⟩
end Go.Proofs.YthgmilllinbcjaaGreatDoor
namespace Go.Proofs.YthgmilllinbcjaaGreatDoor
open Go.RowKit
open Go.Lib (hid)

def addN (l : List (List UInt8)) (nm : List UInt8) : List (List UInt8) := if nm = [] ∨ nm ∈ l then l else l ++ [nm]
def walkN : G → List (List UInt8) → List (List UInt8)
  | .node _ nm _ kids, l => kids.attach.foldl (fun l k => walkN k.1 l) (addN l nm)
termination_by t => SizeOf.sizeOf t
decreasing_by
  have := List.sizeOf_lt_of_mem k.2
  simp
  omega
theorem walkN_eq (t : G) (l : List (List UInt8)) : walkN t l = (gKids t).foldl (fun l k => walkN k l) (addN l (gNm t)) := by
  cases t with
  | node op nm n kids =>
    rw [walkN]
    show kids.attach.foldl (fun l k => walkN k.1 l) (addN l nm) = kids.foldl (fun l k => walkN k l) (addN l nm)
    rw [List.foldl_attach (f := fun l k => walkN k l)]
def nodesG : G → Nat
  | .node _ _ _ kids => (kids.attach.map fun k => nodesG k.1).sum + 1
termination_by t => SizeOf.sizeOf t
decreasing_by
  have := List.sizeOf_lt_of_mem k.2
  simp
  omega
theorem nodesG_eq (t : G) : nodesG t = ((gKids t).map nodesG).sum + 1 := by
  cases t with
  | node op nm n kids =>
    rw [nodesG]
    simp [gKids]
theorem addN_len (l : List (List UInt8)) (nm : List UInt8) : (addN l nm).length ≤ l.length + 1 := by
  unfold addN; split
  · omega
  · simp
theorem foldN_len : ∀ (ks : List G), (∀ k ∈ ks, ∀ l, (walkN k l).length ≤ l.length + nodesG k) → ∀ l, (ks.foldl (fun l k => walkN k l) l).length ≤ l.length + (ks.map nodesG).sum
  | [], _, l => by simp
  | k :: ks, h, l => by
    rw [List.foldl_cons, List.map_cons, List.sum_cons]
    have h1 := h k (by simp) l
    have h2 := foldN_len ks (fun k hk => h k (by simp [hk])) (walkN k l)
    omega
theorem walkN_len : ∀ (n : Nat) (t : G), SizeOf.sizeOf t = n → ∀ l, (walkN t l).length ≤ l.length + nodesG t := by
  intro n
  induction n using Nat.strongRecOn with
  | _ n ih =>
    intro t hn l
    rw [walkN_eq, nodesG_eq]
    have h1 := addN_len l (gNm t)
    have h2 := foldN_len (gKids t) (fun k hk l => by
      obtain ⟨i, hi, rfl⟩ := List.getElem_of_mem hk
      exact ih _ (by rw [← hn]; exact kid_size t i hi) _ rfl l) (addN l (gNm t))
    omega

/-- What Names never turns: boxes and lists of expressions. -/
def fineM : Obj → Bool
  | .cells _ t _ => t != 9 && t != 32
  | _ => false
structure KeptN (N : Nat) (w w' : World) : Prop where
  below : Below N w w'
  fine : ∀ (k : Nat) (o : Obj), w.heap[k]? = some o → fineM o = true → w'.heap[k]? = some o
theorem KeptN.refl (N : Nat) (w : World) : KeptN N w w := ⟨Below.refl _ _, fun _ _ h _ => h⟩
theorem KeptN.trans {N : Nat} {a b c : World} (h : KeptN N a b) (k : KeptN N b c) : KeptN N a c := ⟨h.below.trans k.below, fun i o hi hf => k.fine i o (h.fine i o hi hf) hf⟩
theorem KeptN.of_below {N : Nat} {w w' : World} (h : Below w.heap.size w w') (hN : N ≤ w.heap.size) : KeptN N w w' := ⟨h.mono hN, fun k _ hk _ => (h.block k (lt_of_block hk)).trans hk⟩
theorem KeptN.size {N : Nat} {w w' : World} (h : KeptN N w w') : w.heap.size ≤ w'.heap.size := h.below.size
theorem KeptN.drew {N : Nat} {a w : World} (h : KeptN N a w) : KeptN N a w.drew := ⟨h.below.drew, h.fine⟩
theorem KeptN.grown {N : Nat} {a w w' : World} (h : KeptN N a w) (hN : N ≤ w.heap.size) {row : Option Nat} (hg : w.grownBy w' row) (hr : ∀ k, row = some k → N ≤ k ∧ ∀ o, w.heap[k]? = some o → fineM o = false) : KeptN N a w' :=
  h.trans ⟨(Below.refl N w).grown hg hN fun k e => (hr k e).1, fun k o hk hf => (hg.block k (lt_of_block hk) fun e => by have := (hr k e.symm).2 o hk; rw [this] at hf; cases hf).trans hk⟩
theorem KeptN.setCell {N B : Nat} {a w : World} (h : KeptN N a w) (hB : N ≤ B) {o : Obj} (hb : w.heap[B]? = some o) (hf : fineM o = false) (k : Nat) (v : Value) : KeptN N a (w.setCell ⟨B, k, none⟩ v) :=
  h.trans ⟨(Below.refl N w).setCell hB _, fun i o' hi hf' => (Below.heap_setCell _ _ _ _ (by intro e; have e : i = B := e; subst e; rw [hb] at hi; cases hi; rw [hf] at hf'; cases hf')).trans hi⟩

/-- The names so far: the map of those met in block m (its variable in bm), the list in block bl. -/
def NamesAt (w : World) (N bm bl m : Nat) (l : List (List UInt8)) : Prop :=
  N ≤ m ∧ N ≤ bm ∧ N ≤ bl ∧ w.heap[bm]? = some (.cells #[.map (some m)] 108 (0, 0)) ∧ MapV w m l.length (fun k => if k ∈ l then some (.agg #[]) else none) ∧ 
  ∃ v, w.heap[bl]? = some (.cells #[v] 32 (0, 0)) ∧ w.ownsRow N 9 1 v l.length (l.map fun k => .string ⟨k.toArray⟩)
theorem NamesAt.below {w w' : World} {N bm bl m : Nat} {l : List (List UInt8)} (h : NamesAt w N bm bl m l) (hb : Below w.heap.size w w') : NamesAt w' N bm bl m l := by
  obtain ⟨h1, h2, h3, h4, h5, v, h6, h7⟩ := h
  exact ⟨h1, h2, h3, heap_below' h4 hb, h5.block (hb.block _ h5.lt), v, heap_below' h6 hb, own_below h7 hb⟩
theorem zero_unit (w : World) : (zeroValue 110).run Tryz.prog w = .ok (.agg #[]) w := by kernel_rfl

set_option maxRecDepth 100000 in
set_option maxHeartbeats 4000000 in
theorem namesFn_any (t : G) (N bm bl m : Nat) (l : List (List UInt8)) (A : Option Addr) (c : Nat) (w : World) (h : NamesAt w N bm bl m l) (hn : (gNm t).length ≤ 281474976710656) (hl : (l.length + 1) * 16 ≤ 140737488355328) :
    Calls Tryz.prog 70 (#[.agg #[g0 t, g1 t, g2 t, .slice A (gLen t) c]] ++ #[.pointer (some ⟨bm, 0, none⟩), .pointer (some ⟨bl, 0, none⟩)]) w fun e w' => e = .returned (.tuple #[]) ∧ KeptN N w w' ∧ NamesAt w' N bm bl m (addN l (gNm t)) := by
  have hal : Below w.heap.size w (w.alloc (.cells #[g0 t, g1 t, g2 t, .slice A (gLen t) c] 24)) := (Below.refl _ _).alloc (Nat.le_refl _) _
  have hX : Var4 (w.alloc (.cells #[g0 t, g1 t, g2 t, .slice A (gLen t) c] 24)) w.heap.size (g0 t) (g1 t) (g2 t) (.slice A (gLen t) c) := heap_alloc_new _ _
  have hN := h.below hal
  have hNs : N ≤ w.heap.size := by have := lt_of_block h.2.2.2.1; have := h.2.1; omega
  have hK := KeptN.of_below hal hNs
  obtain ⟨q1, q2, q3, q4, q5, v, q6, q7⟩ := hN
  have x1 := hX.a1
  obtain ⟨nm, hnm⟩ : ∃ nm, gNm t = nm := ⟨_, rfl⟩
  have hg1 : g1 t = .string ⟨nm.toArray⟩ := by simp only [g1, hnm]
  rw [hnm] at hn ⊢
  rw [hg1] at x1 hX hK hal q4 q5 q6 q7
  rw [hg1]
  have m0 := cell_of_one q4
  have l0 := cell_of_one q6
  have l1 := free_of_one q6
  have hnl : nm.length ≤ maxLen := by unfold maxLen; omega
  have hnc : nm.length ≤ 281474976710656 := by omega
  clear hn hnm hg1 h
  by_cases hin : nm ∈ l
  · have HA : Hid (addN l nm = l) := hid (if_pos (.inr hin))
    have HQ := hid (show NamesAt _ N bm bl m l from ⟨q1, q2, q3, q4, q5, v, q6, q7⟩)
    have hf : (if nm ∈ l then some (Value.agg #[]) else none) = some (.agg #[]) := if_pos hin
    clear q1 q2 q3 q4 q6 q7 hl hin hal hX
    go_enter Tryz.func70, Tryz.ntmps70
    generalize hw0 : w.alloc (.cells #[g0 t, .string ⟨nm.toArray⟩, g2 t, .slice A (gLen t) c] 24) = w0 at *
    go_wp2_with (at_lookup; refine wpList_lookup_v rfl _ _ _ _ true rfl Tryz.underlying108 (.agg #[]) (zero_unit _) m l.length _ rfl q5 nm rfl hnl ?_; rw [hf]; simp only [Option.getD_some, Option.isSome_some, if_true])
    refine bodyPost_ret (results_none rfl _ _ _) rfl ?_
    have hb1 : Below w0.heap.size w0 (w0.alloc (.cells #[] 110)) := (Below.refl _ _).alloc (Nat.le_refl _) _
    exact ⟨rfl, hK.trans (.of_below hb1 (by have := hK.size; omega)), by rw [HA.out]; exact HQ.out.below hb1⟩
  · have hx1 : ((w.alloc (.cells #[g0 t, .string ⟨nm.toArray⟩, g2 t, .slice A (gLen t) c] 24)).alloc (.cells #[] 110)).cell? ⟨w.heap.size, 1, none⟩ = _ := cell_below ((Below.refl _ _).alloc (Nat.le_refl _) _) x1
    have hm1 : ((w.alloc (.cells #[g0 t, .string ⟨nm.toArray⟩, g2 t, .slice A (gLen t) c] 24)).alloc (.cells #[] 110)).cell? ⟨bm, 0, none⟩ = _ := cell_below ((Below.refl _ _).alloc (Nat.le_refl _) _) m0
    by_cases h0 : nm = []
    · subst h0
      have HA : Hid (addN l [] = l) := hid (if_pos (.inl rfl))
      have HQ := hid (show NamesAt _ N bm bl m l from ⟨q1, q2, q3, q4, q5, v, q6, q7⟩)
      have hf : (if [] ∈ l then some (Value.agg #[]) else none) = none := if_neg hin
      clear q1 q2 q3 q4 q6 q7 hl hin hal hX
      go_enter Tryz.func70, Tryz.ntmps70
      generalize hw0 : w.alloc (.cells #[g0 t, .string ⟨([] : List UInt8).toArray⟩, g2 t, .slice A (gLen t) c] 24) = w0 at *
      go_wp2_with (at_lookup; refine wpList_lookup_v rfl _ _ _ _ true rfl Tryz.underlying108 (.agg #[]) (zero_unit _) m l.length _ rfl q5 [] rfl hnl ?_; rw [hf]; simp only [Option.getD_none, Option.isSome_none, if_true])
      refine bodyPost_ret (results_none rfl _ _ _) rfl ?_
      have hb1 : Below w0.heap.size w0 (w0.alloc (.cells #[] 110)) := (Below.refl _ _).alloc (Nat.le_refl _) _
      exact ⟨rfl, hK.trans (.of_below hb1 (by have := hK.size; omega)), by rw [HA.out]; exact HQ.out.below hb1⟩
    · have HA : Hid (addN l nm = l ++ [nm]) := hid (if_neg (by simp [h0, hin]))
      have hf : (if nm ∈ l then some (Value.agg #[]) else none) = none := if_neg hin
      have e0 : nm.isEmpty = false := by cases nm with | nil => exact absurd rfl h0 | cons => rfl
      have e1 : (nm == []) = false := by simpa using h0
      have cC := fun W => clone_any nm hnc W
      obtain ⟨i0, hi, hz0, hz1, hz2⟩ := info_parts info_str
      have hlm : l.length < maxLen := by unfold maxLen; omega
      have hNE : (fun k => if k ∈ l ++ [nm] then some (Value.agg #[]) else none) = fun k => if k = nm then some (Value.agg #[]) else if k ∈ l then some (Value.agg #[]) else none := by
        funext k
        by_cases e : k = nm
        · rw [if_pos e, if_pos (by simp [e])]
        · rw [if_neg e]
          by_cases e2 : k ∈ l
          · rw [if_pos e2, if_pos (by simp [e2])]
          · rw [if_neg e2, if_neg (by simp [e, e2])]
      have HNE := hid hNE
      have hbu : Below (w.alloc (.cells #[g0 t, .string ⟨nm.toArray⟩, g2 t, .slice A (gLen t) c] 24)).heap.size (w.alloc (.cells #[g0 t, .string ⟨nm.toArray⟩, g2 t, .slice A (gLen t) c] 24)) ((w.alloc (.cells #[g0 t, .string ⟨nm.toArray⟩, g2 t, .slice A (gLen t) c] 24)).alloc (.cells #[] 110)) := (Below.refl _ _).alloc (Nat.le_refl _) _
      have hXa := hX.below hbu
      have q4a := heap_below' q4 hbu
      have q6a := heap_below' q6 hbu
      have q7a := own_below q7 hbu
      have hKa := hK.trans (.of_below hbu (by have := hK.size; omega))
      obtain ⟨es0, cl0, hm0⟩ := q5.obj
      have hm0a := heap_below' hm0 hbu
      have hsa : w.heap.size + 2 = ((w.alloc (.cells #[g0 t, .string ⟨nm.toArray⟩, g2 t, .slice A (gLen t) c] 24)).alloc (.cells #[] 110)).heap.size := by simp
      have hmlt : m < w.heap.size := by
        have h1 := lt_of_block hm0
        simp at h1
        rcases Nat.lt_or_ge m w.heap.size with h | h
        · exact h
        · have : m = w.heap.size := by omega
          subst this
          have hh : (w.alloc (.cells #[g0 t, .string ⟨nm.toArray⟩, g2 t, .slice A (gLen t) c] 24)).heap[w.heap.size]? = _ := hX
          rw [hm0] at hh; cases hh
      clear hNE h0 hal q4 q6 q7 hK hX hm0 hbu
      go_enter Tryz.func70, Tryz.ntmps70
      generalize hw0 : w.alloc (.cells #[g0 t, .string ⟨nm.toArray⟩, g2 t, .slice A (gLen t) c] 24) = w0 at *
      go_wp2_with (first | (at_lookup; refine wpList_lookup_v rfl _ _ _ _ true rfl Tryz.underlying108 (.agg #[]) (zero_unit _) m l.length _ rfl q5 nm rfl hnl ?_; rw [hf]; simp only [Option.getD_none, Option.isSome_none, if_true]) | (at_mapUpdate; refine wpList_mapUpdate_v rfl _ _ _ _ _ rfl Tryz.underlying108 m l.length _ rfl (q5.block (Below.heap_alloc _ _ _ q5.lt)) hlm nm (.agg #[]) rfl rfl hnl ?_; intro w2 hM hg))
      have hX2 : Var4 w2 w.heap.size (g0 t) (.string ⟨nm.toArray⟩) (g2 t) (.slice A (gLen t) c) := (hg.block _ (lt_of_block hXa) (by intro e; cases e; omega)).trans hXa
      have hmb : ∀ (b : Nat) (cs : Array Value) (ty : TypeId), (w0.alloc (.cells #[] 110)).heap[b]? = some (.cells cs ty (0, 0)) → w2.heap[b]? = some (.cells cs ty (0, 0)) := fun b cs ty hb => (hg.block b (lt_of_block hb) (by intro e; cases e; rw [hm0a] at hb; cases hb)).trans hb
      have q42 := hmb _ _ _ q4a
      have q62 := hmb _ _ _ q6a
      have q72 : w2.ownsRow N 9 1 v l.length (l.map fun k => .string ⟨k.toArray⟩) := own_kept q7a fun g hgv => by
        rcases q7a.2 with ⟨rfl, _⟩ | ⟨g', cap, cur, rfl, _, hb, _⟩
        · simp [Value.ownBlock] at hgv
        · obtain rfl : g' = g := by simpa [Value.ownBlock] using hgv
          exact (hmb _ _ _ hb).trans hb.symm
      have hK2 : KeptN N w w2 := hKa.grown (by omega) hg (fun k e => by cases e; exact ⟨q1, fun o ho => by rw [hm0a] at ho; cases ho; rfl⟩)
      have hs2 : w.heap.size < w2.heap.size := hX2.lt
      have hne : v.ownBlock ≠ some bl := fun he => by
        rcases q72.2 with ⟨rfl, _⟩ | ⟨g, cap, cur, rfl, _, hh, _⟩
        · simp [Value.ownBlock] at he
        · obtain rfl : g = bl := by simpa [Value.ownBlock] using he
          rw [q62] at hh; cases hh
      have hM2 : MapV w2 m (l.length + 1) (fun k => if k ∈ l ++ [nm] then some (.agg #[]) else none) := by
        rw [HNE.out]
        rw [hf] at hM
        exact hM
      have HM2 := hid hM2
      have HQ := hid (And.intro q1 (And.intro q2 (And.intro q3 (And.intro hK2 q42))))
      have c0 := cell_of_one q62
      have y1 := hX2.a1
      have hlt := lt_of_block q62
      have hbm : bl ≠ m := by intro e; subst e; rw [hm0a] at q6a; cases q6a
      clear q4a q6a q7a hKa hm0a hXa hM hmb hK2 hM2 hg hnl hlm q5 hx1 hm1 x1 m0 l0 l1 hw0 HNE q42
      obtain ⟨xs, hxs⟩ : ∃ xs, (l.map fun k => Value.string ⟨k.toArray⟩) = xs := ⟨_, rfl⟩
      have HXS := hid hxs
      rw [hxs] at q72
      clear hxs
      obtain ⟨k, hk⟩ : ∃ k, l.length = k := ⟨_, rfl⟩
      have HKL := hid hk
      rw [hk] at q72 hl HM2
      clear hk hf
      go_region_law (first
        | (go_simp; go_at_call 56; refine (cC _).mono ?_; rintro e w1 ⟨rfl, hb1⟩; have hown1 := own_below (w := w2.drew) q72 hb1; have hbk1 := (hb1.block bl hlt).trans q62; have hlt1 := lt_of_block hbk1; have c1 := cell_of_one hbk1)
        | (refine step_append_lies _ (by rfl) _ _ _ (by rfl) N 9 i0 (.string .empty) 1 16 Tryz.underlying32 hi hz0 hz1 hz2 rfl (by omega) v k xs (by rfl) ((hown1.alloc _)) ⟨w1.heap.size, 0, none⟩ 1 1 [.string ⟨nm.toArray⟩] (by rfl) (by rfl) (World.news_of_block (cs := #[.string ⟨nm.toArray⟩]) (t := 9) (fr := (0, 0)) (heap_alloc_new w1 _)) (by simp [Value.oneCell']) (by omega) (by unfold maxLen; omega) (by omega) (by have := hb1.size; simp at this; simp; omega) (w1.heap.size + 1) (by simp) ?_; intro gg cap w3 hown3 hg hat hlt3; have hbk3 := (hg.block bl (by simp; omega) (fun e => hne e.symm)).trans ((Below.heap_alloc w1 _ bl hlt1).trans hbk1); have c3 := cell_of_one hbk3; have f3 := free_of_one hbk3))
      all_goals
        have hb1' : Below w2.heap.size w2 w1 := (Below.refl _ w2).drew.trans hb1
        have hK1 : KeptN N w w1 := HQ.out.2.2.2.1.trans (.of_below hb1' (by omega))
        have hal1 : Below w1.heap.size w1 (w1.alloc (.cells #[.string ⟨nm.toArray⟩] 9)) := (Below.refl _ _).alloc (Nat.le_refl _) _
        have hK3 : KeptN N w w3 := (hK1.trans (.of_below hal1 (by have := hK1.size; omega))).grown (by have := hK1.size; simp; omega) hg (fun j e => ⟨(hown1.lt j e).1, fun o ho => by
          rcases hown1.2 with ⟨rfl, _⟩ | ⟨g', cap', cur, rfl, _, hb, _⟩
          · simp [Value.ownBlock] at e
          · obtain rfl : g' = j := by simpa [Value.ownBlock] using e
            rw [heap_below' hb hal1] at ho; cases ho; rfl⟩)
        have hK4 : KeptN N w (w3.setCell ⟨bl, 0, none⟩ (.slice (some ⟨gg, 0, none⟩) (k + 1) cap)) := hK3.setCell q3 hbk3 rfl 0 _
        have hgb : gg ≠ bl := fun e => by
          subst e
          rcases hown3.2 with ⟨hv, _⟩ | ⟨g', cap', cur, hv, _, hb, _⟩
          · cases hv
          · cases hv; rw [hbk3] at hb; cases hb
        have hown4 : (w3.setCell ⟨bl, 0, none⟩ (.slice (some ⟨gg, 0, none⟩) (k + 1) cap)).ownsRow N 9 1 (.slice (some ⟨gg, 0, none⟩) (k + 1) cap) (k + 1) (xs ++ [.string ⟨nm.toArray⟩]) := own_kept hown3 fun g hgv => by
          obtain rfl : gg = g := by simpa [Value.ownBlock] using hgv
          exact Below.heap_setCell _ _ _ _ hgb
        have hrow : ∀ j, v.ownBlock = some j → ∃ cs, (w1.alloc (.cells #[.string ⟨nm.toArray⟩] 9)).heap[j]? = some (.cells cs 9 (0, 0)) := fun j e => by
          rcases hown1.2 with ⟨rfl, _⟩ | ⟨g', cap', cur, rfl, _, hb, _⟩
          · simp [Value.ownBlock] at e
          · obtain rfl : g' = j := by simpa [Value.ownBlock] using e
            exact ⟨_, heap_below' hb hal1⟩
        have hfin : NamesAt (w3.setCell ⟨bl, 0, none⟩ (.slice (some ⟨gg, 0, none⟩) (k + 1) cap)) N bm bl m (l ++ [nm]) := by
          have hmN := HM2.out
          obtain ⟨es1, cl1, hm1⟩ := hmN.obj
          have hm1a := heap_below' (heap_below' hm1 hb1') hal1
          have hm3 : w3.heap[m]? = some (.map es1 cl1) := (hg.block m (lt_of_block hm1a) (fun e => by obtain ⟨cs, hcs⟩ := hrow m e.symm; rw [hm1a] at hcs; cases hcs)).trans hm1a
          have q4w := HQ.out.2.2.2.2
          have q4a := heap_below' (heap_below' q4w hb1') hal1
          have q43 := (hg.block bm (lt_of_block q4a) (fun e => by obtain ⟨cs, hcs⟩ := hrow bm e.symm; rw [q4a] at hcs; cases hcs)).trans q4a
          refine ⟨q1, q2, q3, (Below.heap_setCell _ _ _ _ (by intro e; have e : bm = bl := e; subst e; rw [q4w] at q62; cases q62)).trans q43, ?_, _, one_setCell hbk3, ?_⟩
          · rw [List.length_append, HKL.out]
            exact hmN.block ((Below.heap_setCell _ _ _ _ (by intro e; exact hbm e.symm)).trans (hm3.trans hm1.symm))
          · rw [List.length_append, HKL.out, List.map_append, HXS.out]
            exact hown4
        have HF := hid (And.intro hK4 hfin)
        clear hfin hown4 hgb hK4 hK3 hal1 hrow hK1 hb1' hown3 hg hown1 hbk1 hbk3 c1 c3 f3 hat q72 q62 c0 y1
        go_wp2_with fail
        go_end0
        exact ⟨rfl, HF.out.1, by rw [HA.out]; exact HF.out.2⟩

theorem own_mono {w : World} {M N n : Nat} {v : Value} {xs : List Value} (hM : M ≤ N) (h : w.ownsRow N 9 1 v n xs) : w.ownsRow M 9 1 v n xs := by
  refine ⟨h.1, ?_⟩
  rcases h.2 with h0 | ⟨g, cap, cur, hv, h1, h2, h3⟩
  · exact .inl h0
  · exact .inr ⟨g, cap, cur, hv, Nat.le_trans hM h1, h2, h3⟩
theorem KeptN.var4 {N b : Nat} {w w' : World} {x y z k : Value} (h : KeptN N w w') (hb : Var4 w b x y z k) : Var4 w' b x y z k := h.fine _ _ hb rfl

set_option maxRecDepth 100000 in
set_option maxHeartbeats 2000000 in
theorem eachNames_any (W0 : World) (N : Nat) (hN0 : N = W0.heap.size) (bm bl m : Nat) : ∀ (n : Nat) (t : G), SizeOf.sizeOf t = n → ∀ (l : List (List UInt8)) (A : Option Addr) (c : Nat) (w : World), GAt W0 A c t → Below N W0 w → NamesAt w N bm bl m l → (l.length + nodesG t) * 16 ≤ 140737488355328 →
    Calls Tryz.prog 69 #[.agg #[g0 t, g1 t, g2 t, .slice A (gLen t) c], .func (.func 70) #[] #[.pointer (some ⟨bm, 0, none⟩), .pointer (some ⟨bl, 0, none⟩)]] w fun e w' => e = .returned (.tuple #[]) ∧ KeptN N w w' ∧ NamesAt w' N bm bl m (walkN t l) := by
  intro n
  induction n using Nat.strongRecOn with
  | _ n ih =>
    intro t hn l A c w hT0 hB hQ hsz
    have hT := hT0
    have hnm := hT.nm
    have hl3 := hT.len
    have hNs : N ≤ w.heap.size := by have := hB.size; omega
    have hwk := walkN_eq t l
    have hnd := nodesG_eq t
    have h4 := addN_len l (gNm t)
    have hal : Below w.heap.size w (w.alloc (.cells #[g0 t, g1 t, g2 t, .slice A (gLen t) c] 24)) := (Below.refl _ _).alloc (Nat.le_refl _) _
    have hX : Var4 (w.alloc (.cells #[g0 t, g1 t, g2 t, .slice A (gLen t) c] 24)) w.heap.size (g0 t) (g1 t) (g2 t) (.slice A (gLen t) c) := heap_alloc_new _ _
    have hK := KeptN.of_below hal hNs
    have hns : nodesG t ≥ 1 := by omega
    have cF := fun W hW => namesFn_any t N bm bl m l A c W hW hnm (by omega)
    have eg := enters_of Tryz.func70 (by kernel_rfl) rfl
    have hQ0 := hQ.below hal
    have hB0 := hB.trans (hal.mono hNs)
    have x0 := hX.a0; have x1 := hX.a1; have x2 := hX.a2; have x3 := hX.a3
    have HWK := hid hwk
    have HND := hid hnd
    obtain ⟨l0, hl0⟩ : ∃ l0, addN l (gNm t) = l0 := ⟨_, rfl⟩
    rw [hl0] at HWK h4 cF
    have hkl : (gKids t).length = gLen t := rfl
    have HKL := hid hkl
    clear hwk hnd hl0 hQ hB hT hnm hal hkl
    go_enter Tryz.func69, Tryz.ntmps69
    generalize hw0 : w.alloc (.cells #[g0 t, g1 t, g2 t, .slice A (gLen t) c] 24) = w0 at *
    go_wp2_with fail
    refine (cF _ hQ0).mono ?_
    rintro e w1 ⟨rfl, hk1, hQ1⟩
    have hX1 := hk1.var4 hX
    have hB1 := hB0.trans hk1.below
    have hK1 := hK.trans hk1
    have x0 := hX1.a0; have x1 := hX1.a1; have x2 := hX1.a2; have x3 := hX1.a3
    clear cF hQ0 hB0 hk1 hX hK eg
    go_wp2_with fail
    clear x0 x1 x2 x3 hX1
    go_loopw [12] (fun i wr => ∃ k : Nat, k ≤ gLen t ∧ i = .int .i64 k ∧ KeptN N w wr ∧ Below N W0 wr ∧ NamesAt wr N bm bl m (((gKids t).take k).foldl (fun l k => walkN k l) l0) ∧ Hid ((((gKids t).take k).foldl (fun l k => walkN k l) l0).length ≤ l0.length + (((gKids t).take k).map nodesG).sum)) (fun i _ => gLen t - (intOf i).toNat)
    case atStart => exact ⟨0, Nat.zero_le _, rfl, hK1, hB1, hQ1, hid (by simp)⟩
    case round =>
      obtain ⟨k, hk, rfl, hKr, hBr, hQr, HLr⟩ := hrel
      by_cases hlt : k < gLen t
      · have hlt' : k < (gKids t).length := hlt
        have hTr : GAt wr A c t := hT0.later (by rw [← hN0]; exact hBr)
        obtain ⟨g, o, A1, k1, rfl, d0, d1, d2, d3, -⟩ := hTr.kid k hlt'
        obtain ⟨g', o', A1', k1', e', e0, e1, e2, e3, hT1⟩ := hT0.kid k hlt'
        cases e'
        have hsum : (((gKids t).take (k + 1)).map nodesG).sum = (((gKids t).take k).map nodesG).sum + nodesG (gKids t)[k] := by
          rw [List.take_succ_eq_append_getElem hlt', List.map_append, List.sum_append, List.map_cons, List.map_nil, List.sum_cons, List.sum_nil, Nat.add_zero]
        have htot : (((gKids t).take (k + 1)).map nodesG).sum ≤ ((gKids t).map nodesG).sum := by
          conv => rhs; rw [← List.take_append_drop (k + 1) (gKids t)]
          rw [List.map_append, List.sum_append]; omega
        have hfold : ((gKids t).take (k + 1)).foldl (fun l k => walkN k l) l0 = walkN (gKids t)[k] (((gKids t).take k).foldl (fun l k => walkN k l) l0) := by
          rw [List.take_succ_eq_append_getElem hlt', List.foldl_append]; rfl
        have hwl := walkN_len _ (gKids t)[k] rfl (((gKids t).take k).foldl (fun l k => walkN k l) l0)
        have hcell : W0.cell? ⟨g, o + k * 4 + 3, none⟩ = wr.cell? ⟨g, o + k * 4 + 3, none⟩ := by
          have hgl := World.block_lt_of_cell? W0 ⟨g, o + k * 4 + 3, none⟩ e3
          exact (hBr.cell (p := ⟨g, o + k * 4 + 3, none⟩) (by rw [hN0]; exact hgl)).symm
        rw [e3, d3] at hcell
        have hA : A1' = A1 ∧ k1' = k1 := by simpa using hcell
        obtain ⟨rfl, rfl⟩ := hA
        have hLr := HLr.out
        have hnd := HND.out
        have hszk := kid_size t k hlt'
        have cE := fun W hB hQ => ih (SizeOf.sizeOf (gKids t)[k]) (by omega) (gKids t)[k] rfl (((gKids t).take k).foldl (fun l k => walkN k l) l0) A1' k1' W hT1 hB hQ (by omega)
        have HS := hid (And.intro hfold (And.intro hsum (And.intro hwl hLr)))
        have hg1 : (k : Int) < (gLen t : Int) := by omega
        have hg0 : (0 : Int) ≤ (k : Int) := by omega
        have hNr : N ≤ wr.heap.size := by have := hKr.size; omega
        clear hfold hsum htot hwl hLr hnd hszk ih hn hTr hT1 hT0 e0 e1 e2 e3 HLr hcell hw0
        generalize (gKids t)[k] = tk at *
        clear hlt'
        generalize ((gKids t).take k).foldl (fun l k => walkN k l) l0 = lk at *
        have hal2 : Below wr.heap.size wr (wr.alloc (.cells #[g0 tk, g1 tk, g2 tk, .slice A1' (gLen tk) k1'] 24)) := (Below.refl _ _).alloc (Nat.le_refl _) _
        have hY : Var4 (wr.alloc (.cells #[g0 tk, g1 tk, g2 tk, .slice A1' (gLen tk) k1'] 24)) wr.heap.size (g0 tk) (g1 tk) (g2 tk) (.slice A1' (gLen tk) k1') := heap_alloc_new _ _
        have hB2 := hBr.trans (hal2.mono hNr)
        have hQ2 := hQr.below hal2
        have hK2 := hKr.trans (.of_below hal2 hNr)
        have cE2 := cE _ hB2 hQ2
        have y0 := hY.a0; have y1 := hY.a1; have y2 := hY.a2; have y3 := hY.a3
        clear cE hQ2 hQr
        go_wp2_with fail
        refine cE2.mono ?_
        rintro e w3 ⟨rfl, hk3, hQ3⟩
        have HR := hid (And.intro (hK2.trans hk3) (And.intro (hB2.trans hk3.below) hQ3))
        clear cE2 hk3 hQ3 hB2 hK2 hKr hBr hal2 hY y0 y1 y2 y3
        go_wp2_with fail
        go_roundw
        case rel => exact ⟨k + 1, by omega, by go_num, HR.out.1, HR.out.2.1, by rw [HS.out.1]; exact HR.out.2.2, hid (by rw [HS.out.1, HS.out.2.1]; have := HS.out.2.2.1; have := HS.out.2.2.2; omega)⟩
        case measure => simp [intOf]; omega
      · have hke : k = gLen t := by omega
        subst hke
        have HF : Hid (walkN t l = ((gKids t).take (gLen t)).foldl (fun l k => walkN k l) l0) := hid (by rw [HWK.out, show (gKids t).take (gLen t) = gKids t from List.take_length])
        have hg1 : decide ((gLen t : Int) < (gLen t : Int)) = false := by simp
        clear ih hn hT0 HLr
        generalize ((gKids t).take (gLen t)).foldl (fun l k => walkN k l) l0 = lk at *
        go_wp2
        go_end0
        exact ⟨rfl, hKr, by rw [HF.out]; exact hQr⟩

set_option maxHeartbeats 2000000 in
theorem names_any (t : G) (A : Option Addr) (c : Nat) (w : World) (hT : GAt w A c t) (hsz : nodesG t * 16 ≤ 140737488355328) :
    Calls Tryz.prog 45 #[.agg #[g0 t, g1 t, g2 t, .slice A (gLen t) c]] w fun e w' => ∃ v, e = .returned v ∧ w'.ownsRow w.heap.size 9 1 v (walkN t []).length ((walkN t []).map fun k => .string ⟨k.toArray⟩) ∧ Below w.heap.size w w' := by
  have hal : Below w.heap.size w (w.alloc (.cells #[g0 t, g1 t, g2 t, .slice A (gLen t) c] 24)) := (Below.refl _ _).alloc (Nat.le_refl _) _
  have hX : Var4 (w.alloc (.cells #[g0 t, g1 t, g2 t, .slice A (gLen t) c] 24)) w.heap.size (g0 t) (g1 t) (g2 t) (.slice A (gLen t) c) := heap_alloc_new _ _
  have hT1 := hT.later hal
  have hs1 : (w.alloc (.cells #[g0 t, g1 t, g2 t, .slice A (gLen t) c] 24)).heap.size = w.heap.size + 1 := by simp
  obtain ⟨w1, hw1⟩ : ∃ w1, w.alloc (.cells #[g0 t, g1 t, g2 t, .slice A (gLen t) c] 24) = w1 := ⟨_, rfl⟩
  rw [hw1] at hal hX hT1 hs1
  have hal2 : Below w1.heap.size w1 (((w1.alloc (.cells #[.slice none 0 0] 32)).alloc (.map #[] 0)).alloc (.cells #[.map (some (w1.heap.size + 1))] 108)) := (((Below.refl _ _).alloc (Nat.le_refl _) _).alloc (by simp) _).alloc (by simp; omega) _
  have hQ : NamesAt (((w1.alloc (.cells #[.slice none 0 0] 32)).alloc (.map #[] 0)).alloc (.cells #[.map (some (w1.heap.size + 1))] 108)) w1.heap.size (w1.heap.size + 1 + 1) w1.heap.size (w1.heap.size + 1) [] := by
    have hmm := MapV.made (w1.alloc (.cells #[.slice none 0 0] 32))
    rw [World.size_alloc] at hmm
    refine ⟨by omega, by omega, Nat.le_refl _, ?_, ?_, .slice none 0 0, ?_, World.ownsRow_nil _ _ _ _⟩
    · have := heap_alloc_new ((w1.alloc (.cells #[.slice none 0 0] 32)).alloc (.map #[] 0)) (.cells #[.map (some (w1.heap.size + 1))] 108)
      simpa using this
    · have := hmm.block (Below.heap_alloc _ (.cells #[.map (some (w1.heap.size + 1))] 108) _ hmm.lt)
      simpa using this
    · exact (Below.heap_alloc _ _ _ (by simp; omega)).trans ((Below.heap_alloc _ _ _ (by simp)).trans (heap_alloc_new _ _))
  have cE := eachNames_any w1 w1.heap.size rfl (w1.heap.size + 1 + 1) w1.heap.size (w1.heap.size + 1) _ t rfl [] A c _ hT1 hal2 hQ (by simpa using hsz)
  rw [hs1] at cE
  have hX2 := hX.below hal2
  rw [hs1] at hX2
  have x0 := hX2.a0; have x1 := hX2.a1; have x2 := hX2.a2; have x3 := hX2.a3
  have y0 := hX.a0; have y1 := hX.a1; have y2 := hX.a2; have y3 := hX.a3
  have hmm := @run_makeMap Tryz.prog
  rw [hs1] at hal2
  have HB := hid (And.intro hal (And.intro hal2 hs1))
  have HW := hid hw1
  clear hal hT hT1 hX hX2 hQ hsz hal2
  go_enter Tryz.func45, Tryz.ntmps45
  go_wp2_with fail
  refine cE.mono ?_
  rintro e w2 ⟨rfl, hk2, hQ2⟩
  obtain ⟨_, _, _, _, _, v, h6, h7⟩ := hQ2
  have l0 := cell_of_one h6
  have H7 := hid (own_mono (show w.heap.size ≤ w.heap.size + 1 by omega) h7)
  have hb2 : Below w.heap.size w w2 := HB.out.1.trans ((HB.out.2.1.mono (Nat.le_succ _)).trans (hk2.below.mono (by omega)))
  obtain ⟨ao, n', cap, rfl⟩ := own_slice h7
  clear cE h6 h7 hk2 hmm
  go_wp2_with fail
  go_ret
  exact ⟨_, rfl, H7.out, hb2⟩
end Go.Proofs.YthgmilllinbcjaaGreatDoor
