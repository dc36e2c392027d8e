/- What the statement of Names12Said leans on, part 3: PgK, PgL, PgP, PgQ, PgR, UjD, TesM, UtN, OctE, Dig, NumF, NumE, PaQ, UjC, TwM, LnP, TwA, TwB, UjE, UjF, UtP, UtR, UtQ, Tab, UjH, UjK, UjL, May12, Names12, TabL, Lift0, UjM. Conditions: each theorem's own. -/
import Derived.Test.YtgbibgppjicbgaaGreatDoorKNB

namespace Go.Proofs.YtgbibgppjicbgaaGreatDoor
open Go.RowKit
open Go.Lib (hid)
set_option maxHeartbeats 2000000 in
theorem at_err (g : Nat) (lb : Array Value) (A : Option Addr) (c : Nat) (t : List ND) (p : List UInt8) (f : Int) (w : World) (hT : NodesP w (fun _ => True) A t) (hl : t.length ≤ 1099511627776) (hz : SizeT t) (hcap : t.length ≤ c) (hp : p.length ≤ 274877906944) (ha : askQ t p = ([], f)) (hf : f ≠ 0) :
    Calls Tryz.prog 225 #[.slice A t.length c, encS p, .func (.func g) #[] lb] w fun e w' => e = .returned (.int .i64 f) ∧ Below w.heap.size w w' := by
  have cC := tCheck_any A c t w hT hl hz hcap
  have cP := fun W => tPath_any p W (by omega)
  rcases checkL_cases t with ⟨h, h0⟩ | ⟨h, h0⟩
  · have hq : pathQ p = ([], f) := by unfold askQ at ha; rw [if_pos h] at ha; exact ha
    rw [h0] at cC
    rw [hq] at cP
    have q1 : (f == 0) = false := by simpa using hf
    have q2 : (f != 0) = true := by simpa using hf
    clear h h0 hT hz ha hf hq
    go_enter Tryz.func225, Tryz.ntmps225
    go_wp2_with fail
    refine cC.mono ?_
    rintro e w1 ⟨rfl, hb1⟩
    have HB := hid hb1
    clear hb1 cC
    go_wp2_with fail
    refine (cP _).mono ?_
    rintro e w2 ⟨rfl, hb2⟩
    have HB2 := hid (HB.out.trans (hb2.mono HB.out.size))
    clear hb2 cP
    go_wp2_with fail
    go_ret
    exact ⟨rfl, HB2.out⟩
  · have hq : f = 9 := by unfold askQ at ha; rw [if_neg h] at ha; exact (Prod.mk.inj ha).2.symm
    subst hq
    rw [h0] at cC
    clear h h0 hT hz ha cP
    go_enter Tryz.func225, Tryz.ntmps225
    go_wp2_with fail
    refine cC.mono ?_
    rintro e w1 ⟨rfl, hb1⟩
    have HB := hid hb1
    clear hb1 cC
    go_wp2_with fail
    go_ret
    exact ⟨rfl, HB.out⟩
def AtPost (R : Int → World → Prop) (e : Ending) (w' : World) : Prop := ∃ n, e = .returned (.int .i64 n) ∧ R n w'
set_option maxHeartbeats 2000000 in
theorem at_ok (g : Nat) (lb : Array Value) (eg : ∀ args w, (callFunc g args).run Tryz.prog w = .ok (.enter g args) w) (R : Int → World → Prop) (A : Option Addr) (c : Nat) (t : List ND) (p : List UInt8) (w : World) (hT : NodesP w (fun _ => True) A t) (hl : t.length ≤ 1099511627776) (hz : SizeT t) (hcap : t.length ≤ c) (hp : p.length ≤ 274877906944) (hok : OkT t) (hq : pathQ p = (pathL p, 0))
    (hdo : ∀ W, Below w.heap.size w W → Calls Tryz.prog g (#[.agg #[encS (pathL p), .int .i64 (whereN t (pathL p)), .int .i64 (kindL t (pathL p))]] ++ lb) W (AtPost R)) :
    Calls Tryz.prog 225 #[.slice A t.length c, encS p, .func (.func g) #[] lb] w (AtPost R) := by
  have cC := tCheck_any A c t w hT hl hz hcap
  have cP := fun W => tPath_any p W (by omega)
  rw [checkL_ok hok] at cC
  rw [hq] at cP
  have cW := fun W (hb : Below w.heap.size w W) => where_any A c t (pathL p) W (hT.below hb) hl hok.asc
  have cK := fun W (hb : Below w.heap.size w W) => kindOf_any A c t (pathL p) W (hT.below hb) hl hok.asc
  generalize whereN t (pathL p) = wh at *
  generalize kindL t (pathL p) = K at *
  generalize pathL p = P at *
  clear hT hz hok hq
  go_enter Tryz.func225, Tryz.ntmps225
  go_wp2_with fail
  refine cC.mono ?_
  rintro e w1 ⟨rfl, hb1⟩
  have HB := hid hb1
  clear hb1 cC
  go_wp2_with fail
  refine (cP _).mono ?_
  rintro e w2 ⟨rfl, hb2⟩
  have HB2 := hid (HB.out.trans (hb2.mono HB.out.size))
  have cW2 := cW w2 HB2.out
  clear hb2 cP cW
  go_wp2_with fail
  refine cW2.mono ?_
  rintro e w3 ⟨rfl, hb3⟩
  have HB3 := hid (HB2.out.trans (hb3.mono HB2.out.size))
  have cK3 := cK w3 HB3.out
  clear hb3 cW2 cK
  go_wp2_with fail
  refine cK3.mono ?_
  rintro e w4 ⟨rfl, hb4⟩
  have cD := hdo w4 (HB3.out.trans (hb4.mono HB3.out.size))
  clear hb4 cK3 hdo
  go_wp2_with (go_at_fn g; refine cD.mono ?_; rintro e w5 ⟨n, rfl, hR⟩)
  have HR := hid hR
  clear hR cD
  go_wp2_with fail
  go_ret
  exact ⟨n, rfl, HR.out⟩
end Go.Proofs.YtgbibgppjicbgaaGreatDoor

namespace Go.Proofs.YtgbibgppjicbgaaGreatDoor
open Go.RowKit
open Go.Lib (hid)
def oldL (t : List ND) (P : List UInt8) : List UInt8 := ((findN t P).map (·.x)).getD []
theorem old_cases {t : List ND} {P : List UInt8} (ha : Asc t) (hK : kindL t P ≠ 2) : (kindL t P = 0 ∧ findN t P = none ∧ oldL t P = []) ∨ (kindL t P = 1 ∧ ∃ h : whereN t P < t.length, findN t P = some t[whereN t P] ∧ oldL t P = t[whereN t P].x) := by
  rcases kind_cases t P with ⟨h, _, h2⟩ | ⟨h, _, n, h2, _⟩ | ⟨h, _⟩
  · exact .inl ⟨h, h2, by unfold oldL; rw [h2]; rfl⟩
  · rcases where_find ha P with ⟨h3, _, h4⟩ | ⟨_, h4⟩
    · exact .inr ⟨h, h3, h4, by unfold oldL; rw [h4]; rfl⟩
    · rw [h4] at h2; cases h2
  · exact absurd h hK
end Go.Proofs.YtgbibgppjicbgaaGreatDoor

namespace Go.Proofs.YtgbibgppjicbgaaGreatDoor
open Go.RowKit
open Go.Lib (hid)
theorem okT_x {t : List ND} (h : OkT t) {n : ND} (hn : n ∈ t) : n.x.length ≤ 65536 := Nat.le_trans (sumX_mem hn) h.sum
end Go.Proofs.YtgbibgppjicbgaaGreatDoor

namespace Go.Proofs.YtgbibgppjicbgaaGreatDoor
open Go.RowKit
open Go.Lib (hid)
theorem set_same {w : World} {b : Nat} {v : Value} {t : TypeId} (h : w.heap[b]? = some (.cells #[v] t (0, 0))) : w.setCell ⟨b, 0, none⟩ v = w := by
  have hh : (w.setCell ⟨b, 0, none⟩ v).heap = w.heap := by
    apply Array.ext_getElem?
    intro i
    by_cases e : i = b
    · subst e
      rw [one_setCell h, h]
    · exact Below.heap_setCell _ _ _ _ e
  calc w.setCell ⟨b, 0, none⟩ v = { w with heap := (w.setCell ⟨b, 0, none⟩ v).heap } := rfl
    _ = w := by rw [hh]
end Go.Proofs.YtgbibgppjicbgaaGreatDoor

namespace Go.Proofs.YtgbibgppjicbgaaGreatDoor
open Go.RowKit
open Go.Lib (hid)
def GetR (N rb : Nat) (w0 : World) (q : List UInt8 × Int) (n : Int) (W' : World) : Prop := n = q.2 ∧ W'.heap[rb]? = some (.cells #[encS q.1] 9 (0, 0)) ∧ Below N w0 W'
theorem getR_nil {N rb : Nat} {w0 W' : World} {q : List UInt8 × Int} {f : Int} (hq : q = ([], f)) (h4 : W'.heap[rb]? = some (.cells #[.string ⟨#[]⟩] 9 (0, 0))) (hB : Below N w0 W') : AtPost (GetR N rb w0 q) (.returned (.int .i64 f)) W' := by
  subst hq
  exact ⟨f, rfl, rfl, h4, hB⟩
set_option maxRecDepth 100000 in
set_option maxHeartbeats 4000000 in
theorem getFn (A : Option Addr) (c : Nat) (t : List ND) (p : List UInt8) (tb rb N : Nat) (w0 W : World) (hN : N ≤ rb) (h1 : W.heap[tb]? = some (.cells #[.slice A t.length c] 23 (0, 0))) (h4 : W.heap[rb]? = some (.cells #[.string ⟨#[]⟩] 9 (0, 0)))
    (hB : Below N w0 W) (hT : NodesP W (fun _ => True) A t) (hok : OkT t) (ha : askQ t p = (pathL p, 0)) :
    Calls Tryz.prog 258 #[.agg #[encS (pathL p), .int .i64 (whereN t (pathL p)), .int .i64 (kindL t (pathL p))], .pointer (some ⟨tb, 0, none⟩), .pointer (some ⟨rb, 0, none⟩)] W (AtPost (GetR N rb w0 (getQ t p))) := by
  have hNW : N ≤ W.heap.size := by have := lt_of_block h4; omega
  obtain ⟨P, hP⟩ : ∃ P, pathL p = P := ⟨_, rfl⟩
  have hq : getQ t p = if kindL t P = 0 then ([], 71) else if kindL t P = 2 then ([], 15) else (((findN t P).map (·.x)).getD [], 0) := by unfold getQ; rw [ha, ← hP]; simp
  rw [hP]
  obtain ⟨W1, hW1⟩ : ∃ W1, W.alloc (.cells #[encS P, .int .i64 (whereN t P), .int .i64 (kindL t P)] 207) = W1 := ⟨_, rfl⟩
  have hal : Below W.heap.size W W1 := by rw [← hW1]; exact (Below.refl _ _).alloc (Nat.le_refl _) _
  have hsp : W1.heap[W.heap.size]? = some (.cells #[encS P, .int .i64 (whereN t P), .int .i64 (kindL t P)] 207 (0, 0)) := by rw [← hW1]; exact heap_alloc_new _ _
  have g1 := heap_below' h1 hal; have g4 := heap_below' h4 hal
  have hT1 := hT.below hal
  have hB1 := hB.trans (hal.mono hNW)
  have x1 : W1.cell? ⟨W.heap.size, 1, none⟩ = some (.int .i64 (whereN t P)) := by simp [World.cell?, hsp]
  have x2 : W1.cell? ⟨W.heap.size, 2, none⟩ = some (.int .i64 (kindL t P)) := by simp [World.cell?, hsp]
  have y1 := cell_of_one g1
  by_cases hK : kindL t P = 2
  · have HQ : Hid (getQ t p = ([], 15)) := hid (by rw [hq, hK]; rfl)
    rw [hK] at x2 hW1 ⊢
    have HF := hid (And.intro g4 hB1)
    clear hT hT1 hok hK g1 g4 h1 h4 hsp hB hB1 y1 x1 ha hq hP
    go_enter Tryz.func258, Tryz.ntmps258
    go_wp2
    go_ret
    exact getR_nil HQ.out HF.out.1 HF.out.2
  rcases old_cases hok.asc hK with ⟨hK0, hf, ho⟩ | ⟨hK1, hw, hf, ho⟩
  · have HQ : Hid (getQ t p = ([], 71)) := hid (by rw [hq, hK0]; rfl)
    rw [hK0] at x2 hW1 ⊢
    have HF := hid (And.intro g4 hB1)
    clear hT hT1 hok hK hK0 hf ho g1 g4 h1 h4 hsp hB hB1 y1 x1 ha hq hP
    go_enter Tryz.func258, Tryz.ntmps258
    go_wp2
    go_ret
    exact getR_nil HQ.out HF.out.1 HF.out.2
  · have HQ : Hid (getQ t p = (t[whereN t P].x, 0)) := hid (by rw [hq, hK1, hf]; rfl)
    obtain ⟨g, o, rfl, -, -, -, c2⟩ := hT1 (whereN t P) hw
    have hxl := okT_x hok (List.getElem_mem hw)
    generalize t[whereN t P].x = nx at *
    have cC := fun W => clone_any nx (by omega) W
    rw [hK1] at x2 hW1 ⊢
    have hNW1 := hal.size
    clear hT hT1 hok hK hK1 hf ho g1 h1 h4 hsp hB ha hq hP
    go_enter Tryz.func258, Tryz.ntmps258
    go_wp2_with fail
    refine (cC _).mono ?_
    rintro e w2 ⟨rfl, hb2⟩
    have g5 := heap_below' g4 hb2
    have e0 := cell_of_one g5; have f0 := free_of_one g5
    have HF := hid (And.intro (one_setCell (u := encS nx) g5) ((hB1.trans (hb2.mono (Nat.le_trans hNW hNW1))).setCell (p := ⟨rb, 0, none⟩) hN (encS nx)))
    clear hb2 cC g4 g5 hB1
    go_wp2
    go_ret
    rw [HQ.out]
    exact ⟨0, rfl, rfl, HF.out.1, HF.out.2⟩
theorem two_boxes (w : World) (o0 o1 : Obj) {W : World} (hW : (w.alloc o0).alloc o1 = W) : W.heap[w.heap.size]? = some o0 ∧ W.heap[w.heap.size + 1]? = some o1 ∧ W.heap.size = w.heap.size + 2 ∧ Below w.heap.size w W := by
  subst hW
  refine ⟨(Below.heap_alloc _ _ _ (by simp)).trans (heap_alloc_new w _), ?_, by simp, ((Below.refl _ _).alloc (Nat.le_refl _) _).alloc (by simp) _⟩
  have := heap_alloc_new (w.alloc o0) o1
  rwa [World.size_alloc] at this
set_option maxRecDepth 100000 in
set_option maxHeartbeats 4000000 in
theorem tGet_any (A : Option Addr) (c : Nat) (t : List ND) (p : List UInt8) (w : World) (hT : NodesP w (fun _ => True) A t) (hl : t.length ≤ 1099511627776 ∧ t.length ≤ c) (hz : SizeT t) (hp : p.length ≤ 137438953472) :
    Calls Tryz.prog 184 #[.slice A t.length c, encS p] w fun e w' => e = .returned (.tuple #[encS (getQ t p).1, .int .i64 (getQ t p).2]) ∧ Below w.heap.size w w' := by
  obtain ⟨W1, hW1⟩ : ∃ W1, (w.alloc (.cells #[.slice A t.length c] 23)).alloc (.cells #[.string ⟨#[]⟩] 9) = W1 := ⟨_, rfl⟩
  obtain ⟨k0, k1, ks, kb⟩ := two_boxes w _ _ hW1
  have y0 := cell_of_one k0
  have hTb := hT.below kb
  have eg := enters_of Tryz.func258 (by kernel_rfl) rfl
  obtain ⟨lb, hlb⟩ : ∃ lb : Array Value, lb = #[.pointer (some ⟨w.heap.size, 0, none⟩), .pointer (some ⟨w.heap.size + 1, 0, none⟩)] := ⟨_, rfl⟩
  have cA : Calls Tryz.prog 225 #[.slice A t.length c, encS p, .func (.func 258) #[] lb] W1 (AtPost (GetR w.heap.size (w.heap.size + 1) w (getQ t p))) := by
    rcases askQ_cases t p with ⟨ha, hok, hq⟩ | ⟨ha, -, -⟩ | ⟨ha, -⟩
    · refine at_ok 258 lb eg _ A c t p W1 hTb hl.1 hz hl.2 (by omega) hok hq fun W hb => ?_
      rw [hlb]
      exact getFn A c t p w.heap.size (w.heap.size + 1) w.heap.size w W (by omega) (heap_below' k0 hb) (heap_below' k1 hb) (kb.trans (hb.mono (by omega))) (hTb.below hb) hok ha
    · refine (at_err 258 lb A c t p 31 W1 hTb hl.1 hz hl.2 (by omega) ha (by decide)).mono ?_
      rintro e w' ⟨rfl, hb⟩
      exact getR_nil (getQ_ask ha (by decide)) (heap_below' k1 hb) (kb.trans (hb.mono (by omega)))
    · refine (at_err 258 lb A c t p 9 W1 hTb hl.1 hz hl.2 (by omega) ha (by decide)).mono ?_
      rintro e w' ⟨rfl, hb⟩
      exact getR_nil (getQ_ask ha (by decide)) (heap_below' k1 hb) (kb.trans (hb.mono (by omega)))
  rw [hlb] at cA
  generalize getQ t p = q at *
  clear hT hTb hz k0 k1 hlb eg
  go_enter Tryz.func184, Tryz.ntmps184
  go_wp2_with fail
  refine cA.mono ?_
  rintro e w2 ⟨n, rfl, rfl, hbx, hB⟩
  have e0 := cell_of_one hbx
  have f0 := free_of_one hbx
  have HO := hid hB
  have HS := hid (set_same hbx)
  clear cA hB hW1
  go_wp2
  first | rw [HS.out] | rw [show w.heap.size + 1 = w.heap.size + 1 from rfl]
  exact bodyPost_ret (v := .tuple #[encS q.1, .int .i64 q.2]) (by simp [results, Tryz.results184, go_sem, e0]) rfl ⟨rfl, HO.out⟩
end Go.Proofs.YtgbibgppjicbgaaGreatDoor
namespace Go.Proofs.YtgbibgppjicbgaaGreatDoor
open Go.RowKit
open Go.Lib (hid)
noncomputable def textY (t : List ND) (inn : List UInt8) (rd : Bool) (x : List UInt8) : List UInt8 := if x = [45] then (if rd then [] else inn) else (getQ t x).1
theorem step_out (t : List ND) (inn : List UInt8) (q : TQ) (x : List UInt8) : (textsStep t inn q x).out = q.out ++ textY t inn q.read x := by
  unfold textsStep textY
  obtain ⟨o, r, s⟩ := q
  by_cases h : x = [45]
  · simp only [if_pos h]
    cases r <;> simp
  · simp only [if_neg h]
theorem fold_out (t : List ND) (hok : OkT t) (inn : List UInt8) (l : List (List UInt8)) : (l.foldl (textsStep t inn) ⟨[], false, 0⟩).out.length ≤ l.length * 65536 + inn.length := by
  by_cases h : l = []
  · subst h; simp
  · have := texts_out t hok inn l
    unfold textsU at this
    rwa [if_neg h] at this
theorem textY_len {t : List ND} (hok : OkT t) (inn : List UInt8) (rd : Bool) (x : List UInt8) : (textY t inn rd x).length ≤ 65536 + inn.length := by
  unfold textY
  split
  · split
    · simp
    · omega
  · have := get_small hok x
    omega
section
variable {W : World} {N B : Nat} {C : Option Addr} {c : Nat} {R : Option Addr} {d : Nat} {o : List UInt8} {st : Int} {t : List ND} {rd : Bool} {l : List (List UInt8)} {inn : List UInt8}
theorem JobAt.tree (h : JobAt W N B C c R d o st t rd l inn) : NodesP W (fun _ => True) C t := fun i hi => by
  obtain ⟨g, q, e, -, c1⟩ := h.nodes i hi
  exact ⟨g, q, e, trivial, c1⟩
set_option linter.unusedSimpArgs false in
set_option maxHeartbeats 2000000 in
theorem text_any (x : List UInt8) (h : JobAt W N B C c R d o st t rd l inn) (hl : t.length ≤ 256) (hz : SizeT t) (hx : x.length ≤ 137438953472) :
    Calls Tryz.prog 129 #[.pointer (some ⟨B, 0, none⟩), encS x] W fun e w' => e = .returned (encS (textY t inn rd x)) ∧ (∀ a, JobAt w' N B C c R d o (textsStep t inn ⟨a, rd, st⟩ x).st t (textsStep t inn ⟨a, rd, st⟩ x).read l inn) ∧ Kept B W w' := by
  obtain ⟨-, -, c2, c3, c4, -, c6⟩ := h.cells
  have f2 := h.free 2
  have f4 := h.free 4
  have H := hid h
  by_cases h45 : x = [45]
  · subst h45
    cases rd
    · have HS := hid (h.set4 true)
      have hk : Hid (Kept B W (W.setCell ⟨B, 4, none⟩ (.bool true))) := hid ((Kept.refl _ _).setCell _ _)
      have c6' : (W.setCell ⟨B, 4, none⟩ (.bool true)).cell? ⟨B, 6, none⟩ = some (encS inn) := HS.out.cells.2.2.2.2.2.2
      clear h
      go_enter Tryz.func129, Tryz.ntmps129
      go_wp2_with fail
      go_ret
      exact ⟨by unfold textY; rw [if_pos rfl]; rfl, fun a => by unfold textsStep; rw [if_pos rfl]; exact HS.out, hk.out⟩
    · clear h
      go_enter Tryz.func129, Tryz.ntmps129
      go_wp2_with fail
      go_ret
      exact ⟨by unfold textY; rw [if_pos rfl]; rfl, fun a => by unfold textsStep; rw [if_pos rfl]; exact H.out, Kept.refl _ _⟩
  · have hx45 : (x == [45]) = false := by simpa using h45
    have cG := tGet_any C c t x W h.tree ⟨by omega, h.hc⟩ hz hx
    have HY : Hid (textY t inn rd x = (getQ t x).1) := hid (if_neg h45)
    have HT : Hid (∀ a, textsStep t inn ⟨a, rd, st⟩ x = ⟨a ++ (getQ t x).1, rd, if (getQ t x).2 ≠ 0 then 1 else st⟩) := hid fun a => if_neg h45
    generalize getQ t x = gq at cG HY HT
    obtain ⟨y, er⟩ := gq
    simp only at cG
    by_cases he : er = 0
    · subst he
      clear h h45
      go_enter Tryz.func129, Tryz.ntmps129
      go_wp2_with fail
      refine cG.mono ?_
      rintro e w1 ⟨rfl, hb⟩
      have HJ := hid (H.out.below hb)
      have HK := hid (Kept.of_below (B := B) hb)
      clear hb cG
      go_wp2_with fail
      go_ret
      exact ⟨by rw [HY.out]; rfl, fun a => by rw [HT.out, if_neg (by simp)]; exact HJ.out, HK.out⟩
    · have he1 : (er != 0) = true := by simpa using he
      have he2 : (er == 0) = false := by simpa using he
      clear h h45
      go_enter Tryz.func129, Tryz.ntmps129
      go_wp2_with fail
      refine cG.mono ?_
      rintro e w1 ⟨rfl, hb⟩
      have HJ := hid (H.out.below hb)
      have HK := hid (Kept.of_below (B := B) hb)
      clear c2 f2
      have f2 := HJ.out.free 2
      have c2 := HJ.out.cells.2.2.1
      clear hb cG
      go_wp2_with fail
      go_ret
      exact ⟨by rw [HY.out]; rfl, fun a => by rw [HT.out, if_pos he]; exact HJ.out.set2 1, HK.out.setCell _ _⟩
set_option linter.unusedSimpArgs false in
set_option maxRecDepth 100000 in
set_option maxHeartbeats 4000000 in
theorem texts_any (h : JobAt W N B C c R d o 0 t false l inn) (hok : OkT t) (hz : SizeT t) (hl : sizeTs l ≤ 1100000) (hi : inn.length ≤ 1100000) :
    Calls Tryz.prog 55 #[.pointer (some ⟨B, 0, none⟩)] W fun e w' => e = .returned (encS (textsU t inn l).out) ∧ JobAt w' N B C c R d o (textsU t inn l).st t (textsU t inn l).read l inn ∧ Kept B W w' := by
  have hlz := sizeTs_len l
  have hl256 : t.length ≤ 256 := hok.1
  obtain ⟨-, -, -, -, -, c5, -⟩ := h.cells
  have hBW := h.lt
  have hset : ∃ (S : Option Addr) (cap : Nat) (sl : List (List UInt8)) (V : World), (if l = [] then W.alloc (.cells #[encS [45]] 9) = V ∧ S = some ⟨W.heap.size, 0, none⟩ ∧ sl = [[45]] ∧ cap = 1 else W = V ∧ S = R ∧ sl = l ∧ cap = d) ∧ JobAt V N B C c R d o 0 t false l inn ∧ Kept B W V ∧ (∀ k (hk : k < sl.length), ∃ g q, S = some ⟨g, q, none⟩ ∧ g ≠ B ∧ V.cell? ⟨g, q + k, none⟩ = some (encS sl[k])) ∧ sl.foldl (textsStep t inn) ⟨[], false, 0⟩ = textsU t inn l ∧ sl.length ≤ 1100000 ∧ sl.length ≤ cap ∧ (∀ x ∈ sl, x.length ≤ 1100000) := by
    by_cases h0 : l = []
    · have hb : Below W.heap.size W (W.alloc (.cells #[encS [45]] 9)) := (Below.refl _ _).alloc (Nat.le_refl _) _
      refine ⟨some ⟨W.heap.size, 0, none⟩, 1, [[45]], _, by rw [if_pos h0]; exact ⟨rfl, rfl, rfl, rfl⟩, h.below hb, Kept.of_below hb, fun k hk => ?_, ?_, by simp, by simp, fun x hx => by obtain rfl := List.mem_singleton.1 hx; simp⟩
      · obtain rfl : k = 0 := by simp at hk; exact hk
        exact ⟨_, 0, rfl, by omega, (Lib.cell_of_heap (heap_alloc_new W (.cells #[encS [45]] 9)) 0).trans rfl⟩
      · unfold textsU
        rw [if_pos h0]
        show textsStep t inn ⟨[], false, 0⟩ [45] = _
        unfold textsStep
        rw [if_pos rfl]
        rfl
    · refine ⟨R, d, l, W, by rw [if_neg h0]; exact ⟨rfl, rfl, rfl, rfl⟩, h, Kept.refl _ _, fun k hk => ?_, by unfold textsU; rw [if_neg h0], by omega, h.hd, fun x hx => by have := sizeTs_mem l x hx; omega⟩
      obtain ⟨g, q, e, hg, hc⟩ := h.texts k hk
      exact ⟨g, q, e, by have := h.le; omega, hc⟩
  obtain ⟨S, cap, sl, V, hcase, hJ, hK, hS, hF, hsl, hcap, hsx⟩ := hset
  obtain ⟨M, hM⟩ : ∃ M, V.heap.size = M := ⟨_, rfl⟩
  have hWM : W.heap.size ≤ M := by have := hK.size; omega
  have hBM : B < M := by omega
  obtain ⟨W1, hW1⟩ : ∃ W1, V.alloc (.cells #[.pointer none, .slice none 0 0] 109) = W1 := ⟨_, rfl⟩
  have hb1 : Below M V W1 := by rw [← hW1]; exact (Below.refl _ _).alloc (by omega) _
  have hB1 : Bld 109 M M 0 #[.pointer none, .slice none 0 0] [] W1 := bld_new 109 _ M M 0 _ (by decide) (Nat.le_refl _) (by rw [← hW1, ← hM]; exact heap_alloc_new _ _) rfl rfl
  have HI := hid (And.intro hB1 (And.intro (hJ.low hb1 (by omega)) (And.intro hJ (And.intro hS (And.intro (Kept.of_below (B := B) (hM ▸ hb1)) hK)))))
  have HF := hid hF
  have HSX := hid hsx
  clear h hJ hK hS hF hb1 hB1 hsx
  obtain ⟨q, hq⟩ : ∃ q, textsU t inn l = q := ⟨_, rfl⟩
  rw [hq] at HF ⊢
  clear hq
  by_cases h0 : l = []
  · rw [if_pos h0] at hcase
    obtain ⟨hV, hS0, rfl, rfl⟩ := hcase
    subst h0
    simp only [List.length_nil] at c5
    go_enter Tryz.func55, Tryz.ntmps55
    go_wp2_with fail
    go_loopw [18, 6] (fun vi _ wr => ∃ (k : Nat) (p v : Value), vi = .int .i64 k ∧ k ≤ ([[45]] : List (List UInt8)).length ∧ Hid (Bld 109 M M 0 #[p, v] ((([[45]] : List (List UInt8)).take k).foldl (textsStep t inn) ⟨[], false, 0⟩).out wr) ∧ Hid (JobAt wr N B C c R d o ((([[45]] : List (List UInt8)).take k).foldl (textsStep t inn) ⟨[], false, 0⟩).st t ((([[45]] : List (List UInt8)).take k).foldl (textsStep t inn) ⟨[], false, 0⟩).read [] inn) ∧ Hid (Kept B V wr)) (fun vi _ _ => ([[45]] : List (List UInt8)).length - (intOf vi).toNat)
    case atStart => exact ⟨0, _, _, rfl, Nat.zero_le _, hid HI.out.1, hid HI.out.2.1, hid HI.out.2.2.2.2.1⟩
    case round =>
      obtain ⟨k, p, v, rfl, hk, HB, HJ, HK⟩ := hrel
      have hMw : M ≤ wr.heap.size := by have := HK.out.size; omega
      by_cases hlt : k < ([[45]] : List (List UInt8)).length
      · skip
        obtain ⟨g, z, hS, hgB, hc⟩ := HI.out.2.2.2.1 k hlt
        rw [hS0] at hS; cases hS
        have hc1 := (World.cell?_of_block (w := V) (a := ⟨W.heap.size, 0 + k, none⟩) (HK.out.block _ (World.block_lt_of_cell? _ _ hc) hgB)).trans hc
        try simp only [Nat.zero_add] at hc1
        have hx := HSX.out _ (List.getElem_mem hlt)
        have hfo := fold_out t hok inn (([[45]] : List (List UInt8)).take k)
        have hto : (([[45]] : List (List UInt8)).take k).length ≤ k := by rw [List.length_take]; omega
        have hyl := textY_len hok inn ((([[45]] : List (List UInt8)).take k).foldl (textsStep t inn) ⟨[], false, 0⟩).read ([[45]] : List (List UInt8))[k]
        have cX := text_any ([[45]] : List (List UInt8))[k] HJ.out hl256 hz (by omega)
        have hst := fun (q : TQ) => step_out t inn q ([[45]] : List (List UInt8))[k]
        have hnx : (([[45]] : List (List UInt8)).take (k + 1)).foldl (textsStep t inn) ⟨[], false, 0⟩ = textsStep t inn ((([[45]] : List (List UInt8)).take k).foldl (textsStep t inn) ⟨[], false, 0⟩) ([[45]] : List (List UInt8))[k] := texts_take_step t inn ([[45]] : List (List UInt8)) k hlt
        have hkz : (k : Int) < ((1 : Nat) : Int) := by omega
        have HNX := hid (And.intro hnx hst)
        generalize (([[45]] : List (List UInt8)).take k).foldl (textsStep t inn) ⟨[], false, 0⟩ = qk at *
        generalize ([[45]] : List (List UInt8))[k] = x at *
        obtain ⟨qo, qr, qs⟩ := qk
        simp only at HB HJ hfo hyl cX
        have HX := hid (cX)
        try clear hS
        clear hc hnx hst HJ hx
        go_wp2_with fail
        refine cX.mono ?_
        rintro e w1 ⟨rfl, hJ1, hk1⟩
        have HK1 := hid (HK.out.trans hk1)
        have HJ1 := hid (hJ1 qo)
        have HB1 := HB.out.kept hk1 hBM
        have hM1 : M ≤ w1.heap.size := by have := hk1.size; omega
        have cW := bstr_any 109 M M 0 #[p, v] qo (textY t inn qr x) w1 lies_B HB1 (by omega) hM1
        clear cX hk1 hJ1 HB1 HX HK HB
        go_wp2_with fail
        refine cW.mono ?_
        rintro e w2 ⟨rfl, ⟨v', hB2⟩, hbe⟩
        have hb2 := hbe.below (Nat.le_refl _) hM1
        have HK2 := hid (HK1.out.low (hM ▸ hb2))
        have HJ2 := hid (HI.out.2.2.1.re HJ1.out HK2.out (hb2.mono (by omega)))
        obtain ⟨p', v'', e⟩ := bld_two hB2 (by simp)
        rw [e] at hB2
        have HB2 := hid hB2
        clear cW hbe hb2 hB2 e HK1 HJ1
        go_wp2_with fail
        go_roundw
        case rel => exact ⟨k + 1, p', v'', by go_num, by omega, by rw [HNX.out.1, HNX.out.2]; exact HB2, by rw [HNX.out.1]; exact HJ2, HK2⟩
        case measure => simp [intOf]; omega
      · have hke : ([[45]] : List (List UInt8)).take k = ([[45]] : List (List UInt8)) := List.take_of_length_le (by omega)
        rw [hke, HF.out] at HB HJ
        obtain rfl : k = 1 := by simp at hk hlt; omega
        have hkz : ¬ ((1 : Nat) : Int) < ((1 : Nat) : Int) := by omega
        clear hke
        have cS := btold_any 109 M M 0 #[p, v] q.out wr HB.out
        clear HB
        go_wp2_with fail
        refine cS.mono ?_
        rintro e w2 ⟨rfl, -, hbe⟩
        have hb2 := hbe.below (Nat.le_refl _) hMw
        have HK2 := hid (HK.out.low (hM ▸ hb2))
        have HJ2 := hid (HI.out.2.2.1.re HJ.out HK2.out (hb2.mono (by omega)))
        clear hbe hb2 cS HK HJ
        go_wp2_with fail
        go_ret
        exact ⟨rfl, HJ2.out, HI.out.2.2.2.2.2.trans HK2.out⟩
  · rw [if_neg h0] at hcase
    obtain ⟨hV, hS0, hL0, hD0⟩ := hcase
    obtain rfl := hV.symm
    obtain rfl := hS0.symm
    obtain rfl := hL0.symm
    obtain rfl := hD0.symm
    have hne : ((l.length : Int) == 0) = false := by simpa using h0
    clear h0
    go_enter Tryz.func55, Tryz.ntmps55
    go_wp2_with fail
    go_loopw [18, 6] (fun vi _ wr => ∃ (k : Nat) (p v : Value), vi = .int .i64 k ∧ k ≤ l.length ∧ Hid (Bld 109 M M 0 #[p, v] ((l.take k).foldl (textsStep t inn) ⟨[], false, 0⟩).out wr) ∧ Hid (JobAt wr N B C c R d o ((l.take k).foldl (textsStep t inn) ⟨[], false, 0⟩).st t ((l.take k).foldl (textsStep t inn) ⟨[], false, 0⟩).read l inn) ∧ Hid (Kept B V wr)) (fun vi _ _ => l.length - (intOf vi).toNat)
    case atStart => exact ⟨0, _, _, rfl, Nat.zero_le _, hid HI.out.1, hid HI.out.2.1, hid HI.out.2.2.2.2.1⟩
    case round =>
      obtain ⟨k, p, v, rfl, hk, HB, HJ, HK⟩ := hrel
      have hMw : M ≤ wr.heap.size := by have := HK.out.size; omega
      by_cases hlt : k < l.length
      · skip
        obtain ⟨g, z, hS, hgB, hc⟩ := HI.out.2.2.2.1 k hlt
        subst hS
        have hc1 := (World.cell?_of_block (w := V) (a := ⟨g, z + k, none⟩) (HK.out.block _ (World.block_lt_of_cell? _ _ hc) hgB)).trans hc
        try simp only [Nat.zero_add] at hc1
        have hx := HSX.out _ (List.getElem_mem hlt)
        have hfo := fold_out t hok inn (l.take k)
        have hto : (l.take k).length ≤ k := by rw [List.length_take]; omega
        have hyl := textY_len hok inn ((l.take k).foldl (textsStep t inn) ⟨[], false, 0⟩).read l[k]
        have cX := text_any l[k] HJ.out hl256 hz (by omega)
        have hst := fun (q : TQ) => step_out t inn q l[k]
        have hnx : (l.take (k + 1)).foldl (textsStep t inn) ⟨[], false, 0⟩ = textsStep t inn ((l.take k).foldl (textsStep t inn) ⟨[], false, 0⟩) l[k] := texts_take_step t inn l k hlt
        have hkz : (k : Int) < ((l.length : Nat) : Int) := by omega
        have HNX := hid (And.intro hnx hst)
        generalize (l.take k).foldl (textsStep t inn) ⟨[], false, 0⟩ = qk at *
        generalize l[k] = x at *
        obtain ⟨qo, qr, qs⟩ := qk
        simp only at HB HJ hfo hyl cX
        have HX := hid (cX)
        try clear hS
        clear hc hnx hst HJ hx
        go_wp2_with fail
        refine cX.mono ?_
        rintro e w1 ⟨rfl, hJ1, hk1⟩
        have HK1 := hid (HK.out.trans hk1)
        have HJ1 := hid (hJ1 qo)
        have HB1 := HB.out.kept hk1 hBM
        have hM1 : M ≤ w1.heap.size := by have := hk1.size; omega
        have cW := bstr_any 109 M M 0 #[p, v] qo (textY t inn qr x) w1 lies_B HB1 (by omega) hM1
        clear cX hk1 hJ1 HB1 HX HK HB
        go_wp2_with fail
        refine cW.mono ?_
        rintro e w2 ⟨rfl, ⟨v', hB2⟩, hbe⟩
        have hb2 := hbe.below (Nat.le_refl _) hM1
        have HK2 := hid (HK1.out.low (hM ▸ hb2))
        have HJ2 := hid (HI.out.2.2.1.re HJ1.out HK2.out (hb2.mono (by omega)))
        obtain ⟨p', v'', e⟩ := bld_two hB2 (by simp)
        rw [e] at hB2
        have HB2 := hid hB2
        clear cW hbe hb2 hB2 e HK1 HJ1
        go_wp2_with fail
        go_roundw
        case rel => exact ⟨k + 1, p', v'', by go_num, by omega, by rw [HNX.out.1, HNX.out.2]; exact HB2, by rw [HNX.out.1]; exact HJ2, HK2⟩
        case measure => simp [intOf]; omega
      · have hke : l.take k = l := List.take_of_length_le (by omega)
        rw [hke, HF.out] at HB HJ
        obtain rfl : k = l.length := by omega
        have hkz : ¬ ((l.length : Nat) : Int) < ((l.length : Nat) : Int) := by omega
        clear hke
        have cS := btold_any 109 M M 0 #[p, v] q.out wr HB.out
        clear HB
        go_wp2_with fail
        refine cS.mono ?_
        rintro e w2 ⟨rfl, -, hbe⟩
        have hb2 := hbe.below (Nat.le_refl _) hMw
        have HK2 := hid (HK.out.low (hM ▸ hb2))
        have HJ2 := hid (HI.out.2.2.1.re HJ.out HK2.out (hb2.mono (by omega)))
        clear hbe hb2 cS HK HJ
        go_wp2_with fail
        go_ret
        exact ⟨rfl, HJ2.out, HI.out.2.2.2.2.2.trans HK2.out⟩
end
end Go.Proofs.YtgbibgppjicbgaaGreatDoor

namespace Go.Proofs.YtgbibgppjicbgaaGreatDoor
open Go.RowKit
def kindK (p : List UInt8) : Int :=
  if p = [45, 110] then 1 else if p = [45, 122] then 2 else if p = [45, 101] then 3 else if p = [45, 102] then 4 else if p = [45, 100] then 5 else if p = [45, 115] then 6
  else if p = [61] then 7 else if p = [33, 61] then 8 else if p = [45, 101, 113] then 9 else if p = [45, 110, 101] then 10 else if p = [45, 108, 116] then 11
  else if p = [45, 108, 101] then 12 else if p = [45, 103, 116] then 13 else if p = [45, 103, 101] then 14 else 0
def unaryL (p : List UInt8) : Bool := decide (1 ≤ kindK p) && decide (kindK p ≤ 6)
def binaryL (p : List UInt8) : Bool := decide (7 ≤ kindK p) && decide (kindK p ≤ 14)
def statusL (b : Bool) : Int := if b then 0 else 1
def oppL (n : Int) : Int := if 1 < n then n else 1 - n
noncomputable def singleL (t : List ND) (p s : List UInt8) : Int :=
  if kindK p = 1 then statusL (!s.isEmpty) else if kindK p = 2 then statusL s.isEmpty else if kindK p = 3 then statusL (kindQ t s != 0)
  else if kindK p = 4 then statusL (kindQ t s == 1) else if kindK p = 5 then statusL (kindQ t s == 2) else if kindK p = 6 then statusL (!(getQ t s).1.isEmpty) else 2
def cmpL (k m n : Int) : Bool := if k = 9 then m == n else if k = 10 then m != n else if k = 11 then decide (m < n) else if k = 12 then decide (m ≤ n) else if k = 13 then decide (n < m) else decide (n ≤ m)
def bothL (a p b : List UInt8) : Int :=
  if kindK p = 7 then statusL (a == b) else if kindK p = 8 then statusL (a != b) else if binaryL p = false then 2
  else if (parseW a).2 ≠ 0 ∨ (parseW b).2 ≠ 0 then 2 else statusL (cmpL (kindK p) (parseW a).1 (parseW b).1)
def e1 (a : List UInt8) : Int := statusL (!a.isEmpty)
noncomputable def e2 (t : List ND) (a b : List UInt8) : Int := if unaryL a then singleL t a b else if a = [33] then oppL (e1 b) else 2
noncomputable def e3 (t : List ND) (a b c : List UInt8) : Int := if binaryL b then bothL a b c else if a = [33] then oppL (e2 t b c) else if a = [40] ∧ c = [41] then e1 b else 2
noncomputable def e4 (t : List ND) (a b c d : List UInt8) : Int := if a = [33] then oppL (e3 t b c d) else if a = [40] ∧ d = [41] then e2 t b c else 2
noncomputable def evalL (t : List ND) (l : List (List UInt8)) : Int :=
  match l with
  | [] => 1
  | [a] => e1 a
  | [a, b] => e2 t a b
  | [a, b, c] => e3 t a b c
  | [a, b, c, d] => e4 t a b c d
  | _ => 2
end Go.Proofs.YtgbibgppjicbgaaGreatDoor

namespace Go.Proofs.YtgbibgppjicbgaaGreatDoor
open Go.RowKit
structure UQ where
  out : List UInt8
  st : Int
  tree : List ND
  read : Bool
  err : Int
def usageU (t : List ND) : UQ := ⟨[], 2, t, false, 0⟩
def tellU (t : List ND) (out : List UInt8) (st : Int) : UQ := ⟨out, st, t, false, 0⟩
def ofT (t : List ND) (u : TQ) (out : List UInt8) : UQ := ⟨out, u.st, t, u.read, 0⟩
def linesA (args : List (List UInt8)) : Int × List (List UInt8) :=
  match args with
  | a :: b :: r => if a = [45, 110] then (numO b, r) else (10, args)
  | _ => (10, args)
noncomputable def linesU (tail : Bool) (t : List ND) (inn : List UInt8) (args : List (List UInt8)) : UQ :=
  if (linesA args).1 < 0 ∨ (lettersL [] [] (linesA args).2).ok = false then usageU t
  else ofT t (textsU t inn (lettersL [] [] (linesA args).2).rest) (if tail then lastL3 (textsU t inn (lettersL [] [] (linesA args).2).rest).out (linesA args).1 else headL (textsU t inn (lettersL [] [] (linesA args).2).rest).out (linesA args).1)
def countL (o s : List UInt8) : List UInt8 :=
  (if o = [108] then printL (tensN s) else if o = [119] then printL (wordsN false s) else if o = [99] then printL (s.length) else printL (tensN s) ++ [32] ++ printL (wordsN false s) ++ [32] ++ printL (s.length)) ++ [10]
noncomputable def countU (t : List ND) (inn : List UInt8) (args : List (List UInt8)) : UQ :=
  if (lettersL [108, 119, 99] [] args).ok = false ∨ 1 < (lettersL [108, 119, 99] [] args).out.length then usageU t
  else ofT t (textsU t inn (lettersL [108, 119, 99] [] args).rest) (countL (lettersL [108, 119, 99] [] args).out (textsU t inn (lettersL [108, 119, 99] [] args).rest).out)
noncomputable def textyU (name : List UInt8) (t : List ND) (inn : List UInt8) (args : List (List UInt8)) : UQ := ⟨(textyQ name t inn args).out, (textyQ name t inn args).st, t, (textyQ name t inn args).read, 0⟩
def swapsA (inn : List UInt8) (args : List (List UInt8)) : List UInt8 × Bool :=
  match args with
  | [a, b] => if a = [45, 100] then delT inn b else transT inn a b
  | _ => ([], false)
def swapsU (t : List ND) (inn : List UInt8) (args : List (List UInt8)) : UQ := if (swapsA inn args).2 = false then usageU t else ⟨(swapsA inn args).1, 0, t, true, 0⟩
def splitM (m : UInt8) : List UInt8 → List (List UInt8)
  | [] => [[]]
  | c :: r => if c = m then [] :: splitM m r else match splitM m r with
    | [] => [[c]]
    | x :: t => (c :: x) :: t
def partT (m : UInt8) (f : Int) (line : List UInt8) : List UInt8 := if m ∈ line then (if 1 ≤ f then (splitM m line).getD (f.toNat - 1) [] else []) else line
def cutT (s : List UInt8) (m : UInt8) (f : Int) : List UInt8 := joinE ((linesL s).map (partT m f))
noncomputable def cutU (t : List ND) (inn : List UInt8) (args : List (List UInt8)) : UQ :=
  match args with
  | a :: [m] :: c :: d :: r =>
    if a ≠ [45, 100] ∨ c ≠ [45, 102] ∨ numO d < 1 ∨ (lettersL [] [] r).ok = false then usageU t
    else ofT t (textsU t inn (lettersL [] [] r).rest) (cutT (textsU t inn (lettersL [] [] r).rest).out m (numO d))
  | _ => usageU t
noncomputable def remS (r f : Bool) (q : List ND × Int) (x : List UInt8) : List ND × Int :=
  if (remQ q.1 x r).2 = 0 then ((remQ q.1 x r).1, q.2) else if (remQ q.1 x r).2 ≠ 71 ∨ f = false then (q.1, 1) else q
noncomputable def rmU (t : List ND) (args : List (List UInt8)) : UQ :=
  if (lettersL [102, 114] [] args).ok = false then usageU t
  else tellU ((lettersL [102, 114] [] args).rest.foldl (remS ((lettersL [102, 114] [] args).out.contains 114) ((lettersL [102, 114] [] args).out.contains 102)) (t, 0)).1 [] ((lettersL [102, 114] [] args).rest.foldl (remS ((lettersL [102, 114] [] args).out.contains 114) ((lettersL [102, 114] [] args).out.contains 102)) (t, 0)).2
def begsL (p : Bool) (x : List UInt8) : List (List UInt8) := if p = true ∧ (pathQ x).2 = 0 then (List.range (partsL x).length).map fun k => joinL ((partsL x).take (k + 1)) else [x]
noncomputable def mkS (p : Bool) (q : Option (List ND × Int)) (x : List UInt8) : Option (List ND × Int) :=
  match q with
  | none => none
  | some (t, s) => if (mkQ t x).2 = 0 then some ((mkQ t x).1, s) else if (mkQ t x).2 = 17 then none else if (mkQ t x).2 ≠ 14 ∨ p = false ∨ kindQ t x ≠ 2 then some (t, 1) else some (t, s)
noncomputable def touchS (q : Option (List ND × Int)) (x : List UInt8) : Option (List ND × Int) :=
  match q with
  | none => none
  | some (t, s) => if kindQ t x ≠ 0 then some (t, s) else if (putQ t x []).2 = 0 then some ((putQ t x []).1, s) else if (putQ t x []).2 = 17 then none else some (t, 1)
def fullU (t : List ND) (q : Option (List ND × Int)) : UQ := match q with | none => ⟨[], 1, t, false, 17⟩ | some (t', s) => tellU t' [] s
noncomputable def mkU (t : List ND) (args : List (List UInt8)) : UQ :=
  if (lettersL [112] [] args).ok = false ∨ (lettersL [112] [] args).rest = [] then usageU t
  else fullU t (((lettersL [112] [] args).rest.flatMap (begsL (!(lettersL [112] [] args).out.isEmpty))).foldl (mkS (!(lettersL [112] [] args).out.isEmpty)) (some (t, 0)))
noncomputable def touchU (t : List ND) (args : List (List UInt8)) : UQ :=
  if (lettersL [] [] args).ok = false ∨ (lettersL [] [] args).rest = [] then usageU t
  else fullU t ((lettersL [] [] args).rest.foldl touchS (some (t, 0)))
def countUp (a b : Int) : List UInt8 := (List.range (b - a + 1).toNat).flatMap fun k : Nat => printL (a + (k : Int)) ++ [10]
def seqE (a b : Int × Int) (t : List ND) : UQ := if a.2 ≠ 0 ∨ b.2 ≠ 0 ∨ (a.1 ≤ b.1 ∧ 4096 ≤ b.1 - a.1) then usageU t else tellU t (countUp a.1 b.1) 0
def seqU (t : List ND) (args : List (List UInt8)) : UQ :=
  match args with
  | [b] => seqE (1, 0) (parseW b) t
  | [a, b] => seqE (parseW a) (parseW b) t
  | _ => usageU t
def stripS (s : List UInt8) : List UInt8 := if s.all (· == 47) then s.take 1 else (s.reverse.dropWhile (· == 47)).reverse
def behindS (s : List UInt8) : List UInt8 := (s.reverse.takeWhile (· != 47)).reverse
def aheadS (s : List UInt8) : List UInt8 := ((s.reverse.dropWhile (· != 47)).drop 1).reverse
def baseL (s : List UInt8) : List UInt8 := if stripS s = [47] then [47] else behindS (stripS s)
def dirL (s : List UInt8) : List UInt8 := if stripS s = [47] then [47] else if 47 ∉ stripS s then [46] else if stripS (aheadS (stripS s)) = [] then [47] else stripS (aheadS (stripS s))
def baseU (dir : Bool) (t : List ND) (args : List (List UInt8)) : UQ :=
  match args with
  | [s] => tellU t ((if dir then dirL s else baseL s) ++ [10]) 0
  | _ => usageU t
def cmpN (op : List UInt8) (x y : Int) : Option Bool :=
  if op = [61] then some (decide (x = y)) else if op = [33, 61] then some (decide (x ≠ y)) else if op = [60] then some (decide (x < y)) else if op = [60, 61] then some (decide (x ≤ y)) else if op = [62] then some (decide (y < x)) else if op = [62, 61] then some (decide (y ≤ x)) else none
open Classical in
noncomputable def cmpS (op x y : List UInt8) : Option Bool :=
  if op = [61] then some (decide (x = y)) else if op = [33, 61] then some (decide (x ≠ y)) else if op = [60] then some (decide (x < y)) else if op = [60, 61] then some (decide (x ≤ y)) else if op = [62] then some (decide (y < x)) else if op = [62, 61] then some (decide (y ≤ x)) else none
def twoN (op : List UInt8) (x y : Int) : Option Int :=
  if op = [43] then some (wrap64 (x + y)) else if op = [45] then some (wrap64 (x - y)) else if op = [42] then some (wrap64 (x * y))
  else if op = [47] then (if y = 0 then none else some (wrap64 (x.tdiv y))) else if op = [37] then (if y = 0 then none else some (wrap64 (x.tmod y))) else none
noncomputable def exprU (t : List ND) (args : List (List UInt8)) : UQ :=
  match args with
  | [a, op, b] =>
    match (if (parseW a).2 = 0 ∧ (parseW b).2 = 0 then cmpN op (parseW a).1 (parseW b).1 else cmpS op a b) with
    | some c => tellU t (printL (if c then 1 else 0) ++ [10]) (if c then 0 else 1)
    | none =>
      if (parseW a).2 = 0 ∧ (parseW b).2 = 0 then
        match twoN op (parseW a).1 (parseW b).1 with
        | some n => tellU t (printL n ++ [10]) (if n = 0 then 1 else 0)
        | none => usageU t
      else usageU t
  | _ => usageU t
def formatU (t : List ND) (args : List (List UInt8)) : UQ :=
  match args with
  | [] => usageU t
  | f :: r => tellU t (formatL f r).1 (formatL f r).2
noncomputable def bracketU (t : List ND) (args : List (List UInt8)) : UQ := if args.getLast? = some [93] then tellU t [] (evalL t args.dropLast) else usageU t
def namesU : List (List UInt8) := [[58], [116, 114, 117, 101], [102, 97, 108, 115, 101], [101, 99, 104, 111], [112, 114, 105, 110, 116, 102], [116, 101, 115, 116], [91], [99, 97, 116], [104, 101, 97, 100], [116, 97, 105, 108], [119, 99], [115, 111, 114, 116], [116, 114], [117, 110, 105, 113], [99, 117, 116], [114, 101, 118], [114, 109], [109, 107, 100, 105, 114], [116, 111, 117, 99, 104], [115, 101, 113], [98, 97, 115, 101, 110, 97, 109, 101], [100, 105, 114, 110, 97, 109, 101], [101, 120, 112, 114]]
noncomputable def dispU (name : List UInt8) (args : List (List UInt8)) (inn : List UInt8) (t : List ND) : UQ :=
  if name = [99, 97, 116] ∨ name = [115, 111, 114, 116] ∨ name = [117, 110, 105, 113] ∨ name = [114, 101, 118] then textyU name t inn args
  else if name = [104, 101, 97, 100] then linesU false t inn args
  else if name = [116, 97, 105, 108] then linesU true t inn args
  else if name = [119, 99] then countU t inn args
  else if name = [116, 114] then swapsU t inn args
  else if name = [99, 117, 116] then cutU t inn args
  else if name = [114, 109] then rmU t args
  else if name = [109, 107, 100, 105, 114] then mkU t args
  else if name = [116, 111, 117, 99, 104] then touchU t args
  else if name = [102, 97, 108, 115, 101] then tellU t [] 1
  else if name = [101, 99, 104, 111] then tellU t (echoL args) 0
  else if name = [112, 114, 105, 110, 116, 102] then formatU t args
  else if name = [116, 101, 115, 116] then tellU t [] (evalL t args)
  else if name = [91] then bracketU t args
  else if name = [115, 101, 113] then seqU t args
  else if name = [98, 97, 115, 101, 110, 97, 109, 101] then baseU false t args
  else if name = [100, 105, 114, 110, 97, 109, 101] then baseU true t args
  else if name = [101, 120, 112, 114] then exprU t args
  else tellU t [] 0
noncomputable def runU (name : List UInt8) (args : List (List UInt8)) (inn : List UInt8) (t : List ND) : UQ :=
  if name ∉ namesU then ⟨[], 0, [], false, 31⟩ else if checkL t ≠ 0 then ⟨[], 0, [], false, checkL t⟩
  else if 65536 < (dispU name args inn t).out.length then ⟨[], 1, t, false, 17⟩ else dispU name args inn t
end Go.Proofs.YtgbibgppjicbgaaGreatDoor
namespace Go.Proofs.YtgbibgppjicbgaaGreatDoor
open Go.RowKit
open Go.Lib (hid)
def digitB (c : Int) : Bool := decide (48 ≤ c ∧ c ≤ 57)
set_option maxHeartbeats 400000 in
theorem digit_any (c : Int) (w : World) :
    Calls Tryz.prog 299 #[.int .u8 c] w fun e w' => e = .returned (.bool (digitB c)) ∧ w = w' := by
  have hb : digitB c = (decide (48 ≤ c) && decide (c ≤ 57)) := by unfold digitB; simp
  by_cases h1 : 48 ≤ c <;> by_cases h2 : c ≤ 57
  all_goals
    have H := Lib.hid hb
    clear hb
    go_enter Tryz.func299, Tryz.ntmps299
    go_wp2
    go_ret
    exact ⟨by rw [H.out]; simp [h1, h2], rfl⟩
def everyL (p : Nat → UInt8 → Bool) : Nat → List UInt8 → Bool
  | _, [] => true
  | k, c :: r => p k c && everyL p (k + 1) r
theorem everyL_const (p : UInt8 → Bool) : ∀ (k : Nat) (l : List UInt8), everyL (fun _ c => p c) k l = l.all p
  | _, [] => rfl
  | k, c :: r => by rw [everyL, everyL_const p (k + 1) r]; rfl
theorem everyL_drop (p : Nat → UInt8 → Bool) (l : List UInt8) (k : Nat) (h : k < l.length) :
    everyL p k (l.drop k) = (p k l[k] && everyL p (k + 1) (l.drop (k + 1))) := by
  rw [List.drop_eq_getElem_cons h]; rfl
set_option maxHeartbeats 400000 in
theorem every_any (g : Nat) (lb : Array Value) (eg : ∀ args w, (callFunc g args).run Tryz.prog w = .ok (.enter g args) w) (p : Nat → UInt8 → Bool) (s : ByteArray) (w : World)
    (hs : s.size ≤ maxLen)
    (hp : ∀ (i : Nat) (h : i < s.size), Calls Tryz.prog g (#[.int .i64 i, .int .u8 s[i].toNat] ++ lb) w fun e w' => e = .returned (.bool (p i s[i])) ∧ w = w') :
    Calls Tryz.prog 297 #[.string s, .func (.func g) #[] lb] w fun e w' => e = .returned (.bool (everyL p 0 s.data.toList)) ∧ w = w' := by
  unfold maxLen at hs
  go_enter Tryz.func297, Tryz.ntmps297
  go_wp2
  go_loop [8] (fun i => ∃ k : Nat, k ≤ s.size ∧ i = .int .i64 k ∧ everyL p 0 s.data.toList = everyL p k (s.data.toList.drop k)) (fun i => s.size - (intOf i).toNat)
  case atStart => exact ⟨0, Nat.zero_le _, rfl, rfl⟩
  case round =>
    obtain ⟨k, hk, rfl, he⟩ := hrel
    have HE := Lib.hid he
    clear he
    by_cases hlt : k < s.size
    · have hd := everyL_drop p s.data.toList k (by simpa using hlt)
      rw [getElem_toList s k hlt] at hd
      have HD := Lib.hid hd
      clear hd
      have cS := hp k hlt
      clear hp
      cases hv : p k s[k]
      · have HV := Lib.hid hv
        rw [hv] at cS
        clear hv
        go_wp2_with (go_at_fn g; refine cS.mono ?_; rintro e W' ⟨rfl, rfl⟩)
        go_ret
        exact ⟨by rw [HE.out, HD.out, HV.out]; rfl, rfl⟩
      · have HV := Lib.hid hv
        rw [hv] at cS
        clear hv
        go_wp2_with (go_at_fn g; refine cS.mono ?_; rintro e W' ⟨rfl, rfl⟩)
        go_round
        case rel => exact ⟨k + 1, by omega, by go_num, by rw [HE.out, HD.out, HV.out]; rfl⟩
        case measure => simp [intOf]; omega
    · have hd : s.data.toList.drop k = [] := List.drop_eq_nil_of_le (by simp; omega)
      have HD := Lib.hid hd
      clear hd
      go_wp2
      go_ret
      exact ⟨by rw [HE.out, HD.out]; rfl, rfl⟩
end Go.Proofs.YtgbibgppjicbgaaGreatDoor
namespace Go.Proofs.YtgbibgppjicbgaaGreatDoor
open Go.RowKit
open Go.Lib (hid)
theorem digitsFn (i : Nat) (c : UInt8) (w : World) : Calls Tryz.prog 298 #[.int .i64 i, .int .u8 c.toNat] w fun e w' => e = .returned (.bool (digitB c.toNat)) ∧ w = w' := by
  have c1 := fun W => digit_any c.toNat W
  go_enter Tryz.func298, Tryz.ntmps298
  go_wp2_with fail
  refine (c1 _).mono ?_
  rintro e w1 ⟨rfl, rfl⟩
  go_wp2_with fail
  go_ret
  exact ⟨rfl, rfl⟩
theorem digits_any (s : List UInt8) (w : World) (hs : s.length ≤ 1099511627776) (hne : s ≠ []) :
    Calls Tryz.prog 261 #[encS s] w fun e w' => e = .returned (.bool (s.all fun c => digitB c.toNat)) ∧ w = w' := by
  have cE := fun W => every_any 298 #[] (enters_of Tryz.func298 (by kernel_rfl) rfl) (fun _ c => digitB c.toNat) ⟨s.toArray⟩ W (by unfold maxLen; simp [ByteArray.size]; omega) (fun i _ => digitsFn i _ W)
  rw [everyL_const] at cE
  have h1 : (⟨s.toArray⟩ : ByteArray).data.toList = s := by simp
  rw [h1] at cE
  have g1 : (s == []) = false := by simpa using hne
  obtain ⟨q, hq⟩ : ∃ q, (s.all fun c => digitB c.toNat) = q := ⟨_, rfl⟩
  rw [hq] at cE ⊢
  clear hq h1 hne
  go_enter Tryz.func261, Tryz.ntmps261
  go_wp2_with fail
  refine (cE _).mono ?_
  rintro e w1 ⟨rfl, rfl⟩
  go_wp2_with fail
  go_ret
  exact ⟨rfl, rfl⟩
end Go.Proofs.YtgbibgppjicbgaaGreatDoor

namespace Go.Proofs.YtgbibgppjicbgaaGreatDoor
open Go.RowKit
def digitL (l : List UInt8) : Bool := l.all fun c => decide (48 ≤ c.toNat) && decide (c.toNat ≤ 57)
theorem dig_of {c : UInt8} (h : (decide (48 ≤ c.toNat) && decide (c.toNat ≤ 57)) = true) : digI (c.toNat : Int) = c.toNat - 48 ∧ c ≠ 32 ∧ c ≠ 9 ∧ c ≠ 45 ∧ c ≠ 43 := by
  simp only [Bool.and_eq_true, decide_eq_true_eq] at h
  refine ⟨?_, ?_, ?_, ?_, ?_⟩
  · unfold digI; rw [if_pos (by omega)]
  all_goals (rintro rfl; revert h; decide)
theorem digit_good {l : List UInt8} (h : digitL l = true) : goodL 10 l = true := by
  unfold digitL at h; unfold goodL
  rw [List.all_eq_true] at h ⊢
  intro c hc
  have h1 := h c hc
  have h2 := (dig_of h1).1
  simp only [Bool.and_eq_true, decide_eq_true_eq] at h1
  rw [h2]; simp; omega
end Go.Proofs.YtgbibgppjicbgaaGreatDoor

namespace Go.Proofs.YtgbibgppjicbgaaGreatDoor
open Go.RowKit
open Go.Lib (hid)
def blankB (c : UInt8) : Bool := [32, 9].contains c
theorem dropWhile_none {p : UInt8 → Bool} : ∀ {l : List UInt8}, (∀ c ∈ l, p c = false) → l.dropWhile p = l
  | [], _ => rfl
  | c :: r, h => by rw [List.dropWhile_cons, if_neg (by rw [h c (by simp)]; decide)]
theorem trim_none {l : List UInt8} (h : ∀ c ∈ l, blankB c = false) : Lib.trimS l [32, 9] = l := by
  have h1 : l.reverse.dropWhile blankB = l.reverse := dropWhile_none fun c hc => h c (by simpa using hc)
  unfold Lib.trimS Lib.trimLeftS Lib.trimRightS
  rw [show (fun c => [32, 9].contains c : UInt8 → Bool) = blankB from rfl, h1, List.reverse_reverse]
  exact dropWhile_none h
theorem blank_not {c : UInt8} (h1 : c ≠ 32) (h2 : c ≠ 9) : blankB c = false := by
  unfold blankB; simp [h1, h2]
theorem digit_blank {l : List UInt8} (h : digitL l = true) : ∀ c ∈ l, blankB c = false := fun c hc => by
  have h1 := List.all_eq_true.1 h c hc
  have h2 := dig_of h1
  exact blank_not h2.2.1 h2.2.2.1
theorem pre_other {c d : UInt8} (h : c ≠ d) (l : List UInt8) : Lib.hasPrefix (c :: l) [d] = false := by
  show (d == c && List.isPrefixOf [] l) = false
  rw [show (d == c) = false by simpa using Ne.symm h]; rfl
theorem pre_digit {l : List UInt8} (h : digitL l = true) (d : UInt8) (hd : d = 45 ∨ d = 43) : Lib.hasPrefix l [d] = false := by
  cases l with
  | nil => rfl
  | cons c r =>
    have h1 := List.all_eq_true.1 h c (by simp)
    have h2 := dig_of h1
    rcases hd with rfl | rfl
    · exact pre_other h2.2.2.2.1 r
    · exact pre_other h2.2.2.2.2 r
theorem trimPre_no {l p : List UInt8} (h : Lib.hasPrefix l p = false) : Lib.trimPrefix l p = l := by unfold Lib.trimPrefix; rw [h]; rfl
theorem parse_digits {l : List UInt8} {n : Int} (h : digitL l = true) (hr : readL 10 l = (n, true)) : parseL l = (wrap64 n, 0) := by
  unfold parseL signL
  rw [trim_none (digit_blank h), pre_digit h 45 (.inl rfl), trimPre_no (pre_digit h 43 (.inr rfl)), hr]; rfl
theorem printL_len {n : Int} (h0 : -9223372036854775808 ≤ n) (h1 : n ≤ 9223372036854775807) : (printL n).length ≤ 20 := by
  have h : ∀ (k u : Nat), u < 10 ^ (k + 1) → (decD u).length ≤ k + 1 := fun k => by
    induction k with
    | zero => intro u hu; rw [decD_one (by simpa using hu)]; simp
    | succ k ih =>
      intro u hu
      by_cases h : u < 10
      · rw [decD_one h]; simp
      · rw [decD_more (by omega), List.length_append, List.length_singleton]
        have := ih (u / 10) (by rw [Nat.pow_succ] at hu; omega)
        omega
  have := h 18 n.natAbs (by omega)
  unfold printL
  split
  · rw [List.length_cons]; omega
  · omega
end Go.Proofs.YtgbibgppjicbgaaGreatDoor
namespace Go.Proofs.YtgbibgppjicbgaaGreatDoor
open Go.RowKit
open Go.Lib (hid)
theorem pall_u8 {p : UInt8 → Prop} (h : ∀ n : Fin 256, p (UInt8.ofFin n)) : ∀ c, p c := fun c => h c.toFin
theorem pblank : ∀ x : UInt8, ([(32 : UInt8), 9].contains x) = blkW x := pall_u8 (by decide +kernel)
theorem ptrimE_cons (x : UInt8) (r : List UInt8) : trimE (x :: r) = if trimE r = [] ∧ blkW x = true then [] else x :: trimE r := by
  unfold trimE
  rw [List.reverse_cons, List.dropWhile_append]
  by_cases h : r.reverse.dropWhile blkW = []
  · cases hx : blkW x <;> simp [h, hx]
  · simp [h]
theorem ptrimE_head {u : List UInt8} {x : UInt8} (hx : blkW x = false) : ∃ v, trimE (x :: u) = x :: v := by
  rw [ptrimE_cons, if_neg (by rw [hx]; simp)]
  exact ⟨_, rfl⟩
theorem ptrim_swap : ∀ l : List UInt8, (trimE l).dropWhile blkW = trimE (l.dropWhile blkW)
  | [] => rfl
  | x :: r => by
    have ih := ptrim_swap r
    cases hx : blkW x
    · obtain ⟨v, hv⟩ := ptrimE_head (u := r) hx
      rw [List.dropWhile_cons, if_neg (by rw [hx]; simp), hv, List.dropWhile_cons, if_neg (by rw [hx]; simp)]
    · rw [List.dropWhile_cons, if_pos hx, ptrimE_cons, ← ih]
      by_cases h : trimE r = []
      · rw [if_pos ⟨h, hx⟩, h]
      · rw [if_neg (fun e => h e.1), List.dropWhile_cons, if_pos hx]
theorem ptrimS_eq (l : List UInt8) : Lib.trimS l [32, 9] = trimW l := by
  unfold Lib.trimS Lib.trimLeftS Lib.trimRightS
  rw [show ([(32 : UInt8), 9].contains ·) = blkW from funext pblank]
  exact ptrim_swap l
theorem signW_cons (c : UInt8) (r : List UInt8) : signW (c :: r) = if c = 45 then (if (readL 10 r).2 then (wrap64 (-(readL 10 r).1), 0) else (0, 33))
    else if c = 43 then (if (readL 10 r).2 then (wrap64 (readL 10 r).1, 0) else (0, 33))
    else (if (readL 10 (c :: r)).2 then (wrap64 (readL 10 (c :: r)).1, 0) else (0, 33)) := rfl
theorem pre_not {c x : UInt8} (r : List UInt8) (h : ¬ c = x) : Lib.hasPrefix (c :: r) [x] = false := by
  unfold Lib.hasPrefix
  simp only [List.isPrefixOf, Bool.and_true]
  simpa using fun e => h e.symm
theorem sign_eq (l : List UInt8) : signL l = signW l := by
  cases l with
  | nil => simp [signL, signW, Lib.hasPrefix, Lib.trimPrefix, readL, goodL]
  | cons c r =>
    rw [signW_cons]
    unfold signL
    by_cases h45 : c = 45
    · subst h45
      simp [Lib.hasPrefix, Lib.trimPrefix]
    · rw [pre_not r h45, if_neg (by simp), if_neg h45]
      by_cases h43 : c = 43
      · subst h43
        simp [Lib.hasPrefix, Lib.trimPrefix]
      · rw [if_neg h43]
        have h2 : Lib.trimPrefix (c :: r) [43] = c :: r := by unfold Lib.trimPrefix; rw [pre_not r h43, if_neg (by simp)]
        rw [h2]
theorem parse_eq (l : List UInt8) : parseL l = parseW l := by
  unfold parseL parseW
  rw [ptrimS_eq, sign_eq]
theorem pparse_any (s : List UInt8) (w : World) (hs : s.length ≤ 140737488351232) :
    Calls Tryz.prog 185 #[encS s] w fun e w' => e = .returned (.tuple #[.int .i64 (parseW s).1, .int .i64 (parseW s).2]) ∧ Below w.heap.size w w' := by
  have c := parse_any ⟨s.toArray⟩ w (by simp [ByteArray.size]; omega)
  have e : (⟨s.toArray⟩ : ByteArray).data.toList = s := by simp
  rw [e, parse_eq] at c
  exact c
end Go.Proofs.YtgbibgppjicbgaaGreatDoor
namespace Go.Proofs.YtgbibgppjicbgaaGreatDoor
open Go.RowKit
open Go.Lib (hid)
theorem digitB_all (l : List UInt8) : (l.all fun c => digitB c.toNat) = l.all digB := by
  congr 1
  funext c
  unfold digitB digB
  rw [Bool.eq_iff_iff]
  simp
  omega
theorem digB_L (l : List UInt8) : l.all digB = digitL l := by
  unfold digitL
  congr 1
  funext c
  unfold digB
  simp
theorem val_bound : ∀ (l : List UInt8) (n : Int), digitL l = true → 0 ≤ n → 0 ≤ valFrom 10 n l ∧ valFrom 10 n l < (n + 1) * 10 ^ l.length
  | [], n, _, h => by simp [valFrom]; omega
  | c :: r, n, h, hn => by
    have h' : ((decide (48 ≤ c.toNat) && decide (c.toNat ≤ 57)) && digitL r) = true := h
    rw [Bool.and_eq_true] at h'
    obtain ⟨h1, h2⟩ := h'
    have hd := (dig_of h1).1
    simp only [Bool.and_eq_true, decide_eq_true_eq] at h1
    rw [valFrom, hd]
    have ih := val_bound r (n * 10 + (c.toNat - 48)) h2 (by omega)
    refine ⟨ih.1, Int.lt_of_lt_of_le ih.2 ?_⟩
    have hp : 0 ≤ (10 : Int) ^ r.length := Int.pow_nonneg (by decide)
    rw [List.length_cons, Int.pow_succ, Int.mul_comm ((10 : Int) ^ r.length) 10, ← Int.mul_assoc (n + 1) 10]
    exact Int.mul_le_mul_of_nonneg_right (by omega) hp
theorem numO_of {x : List UInt8} (h : x.all digB = true) (hne : x ≠ []) (hl : x.length ≤ 6) : numO x = (parseW x).1 ∧ 0 ≤ numO x ∧ numO x < 1000000 := by
  have he : x.isEmpty = false := by simpa using hne
  have e : numO x = (parseW x).1 := by unfold numO; rw [if_pos ⟨by rw [h, he]; rfl, hl⟩]
  refine ⟨e, ?_⟩
  rw [digB_L] at h
  have hb := val_bound x 0 h (Int.le_refl _)
  have hp : (10 : Int) ^ x.length ≤ 10 ^ 6 := by
    have : (10 : Nat) ^ x.length ≤ 10 ^ 6 := Nat.pow_le_pow_right (by decide) hl
    exact_mod_cast this
  have h6 : (10 : Int) ^ 6 = 1000000 := by decide
  rw [h6] at hp
  have hv : 0 ≤ valFrom 10 0 x ∧ valFrom 10 0 x < 1000000 := by omega
  have hr : readL 10 x = (valFrom 10 0 x, true) := by
    unfold readL
    rw [digit_good h, if_pos rfl, he, U_in hv.1 (by omega)]
    rfl
  have hq := parse_digits h hr
  rw [parse_eq] at hq
  rw [e, hq]
  show 0 ≤ wrap64 _ ∧ wrap64 _ < 1000000
  rw [wrap64_id (by omega) (by omega)]
  exact hv
theorem numO_bad {x : List UInt8} (h : ¬ (x.all digB = true ∧ x ≠ [] ∧ x.length ≤ 6)) : numO x = -1 := by
  unfold numO
  rw [if_neg]
  rintro ⟨h1, h2⟩
  rw [Bool.and_eq_true] at h1
  exact h ⟨h1.1, by simpa using h1.2, h2⟩
section
variable {W : World} {N B : Nat} {C : Option Addr} {c : Nat} {R : Option Addr} {d : Nat} {o : List UInt8} {st : Int} {t : List ND} {rd : Bool} {l : List (List UInt8)} {inn : List UInt8}
theorem count_nil (h : JobAt W N B C c R d o st t rd [] inn) : Calls Tryz.prog 188 #[.pointer (some ⟨B, 5, none⟩)] W fun e w' => e = .panicked [faultU 2 0] ∧ W = w' := by
  have cN := next_nil h
  clear h
  go_enter Tryz.func188, Tryz.ntmps188
  go_wp2_with fail
  refine cN.mono ?_
  rintro e w1 ⟨rfl, rfl⟩
  go_wp2_with fail
  exact ⟨rfl, rfl, rfl⟩
set_option linter.unusedSimpArgs false in
set_option maxHeartbeats 1000000 in
theorem count_cons {x : List UInt8} {r : List (List UInt8)} (h : JobAt W N B C c R d o st t rd (x :: r) inn) (hr : r.length ≤ 1099511627776) (hx : x.length ≤ 1099511627776) :
    Calls Tryz.prog 188 #[.pointer (some ⟨B, 5, none⟩)] W fun e w' => Kept B W w' ∧ ((numO x < 0 ∧ e = .panicked [faultU 2 0]) ∨ (0 ≤ numO x ∧ numO x < 1000000 ∧ e = .returned (.int .i64 (numO x)) ∧ ∃ R' d', JobAt w' N B C c R' d' o st t rd r inn)) := by
  have cN := next_cons h hr
  clear h
  have hz : (⟨x.toArray⟩ : ByteArray).size = x.length := by simp [ByteArray.size]
  by_cases h6 : x.length ≤ 6
  · have hi : (x.length : Int) ≤ 6 := by omega
    by_cases h0 : x = []
    · have hn := numO_bad (x := x) (fun h => h.2.1 h0)
      have HN := hid (show numO x < 0 by omega)
      clear hn
      subst h0
      clear h6 hx
      have cD : ∀ w, Calls Tryz.prog 261 #[encS []] w fun e w' => e = .returned (.bool false) ∧ w = w' := fun w => by
        go_enter Tryz.func261, Tryz.ntmps261
        go_wp2_with fail
        go_ret
        exact ⟨rfl, rfl⟩
      go_enter Tryz.func188, Tryz.ntmps188
      go_wp2_with fail
      refine cN.mono ?_
      rintro e w1 ⟨rfl, -, hk⟩
      clear cN
      go_wp2_with fail
      refine (cD _).mono ?_
      rintro e w2 ⟨rfl, rfl⟩
      go_wp2_with fail
      refine (must_false _).mono ?_
      rintro e w2 ⟨rfl, rfl⟩
      go_wp2_with fail
      exact ⟨rfl, hk, .inl ⟨HN.out, rfl⟩⟩
    · have cD := fun w => digits_any x w hx h0
      rw [digitB_all] at cD
      have cP := fun w => pparse_any x w (by omega)
      cases hd : x.all digB
      · have HN := hid (show numO x < 0 by rw [numO_bad (x := x) (fun h => by rw [hd] at h; exact absurd h.1 (by decide))]; decide)
        rw [hd] at cD
        clear hd cP
        go_enter Tryz.func188, Tryz.ntmps188
        go_wp2_with fail
        refine cN.mono ?_
        rintro e w1 ⟨rfl, -, hk⟩
        clear cN
        go_wp2_with fail
        refine (cD _).mono ?_
        rintro e w2 ⟨rfl, rfl⟩
        go_wp2_with fail
        refine (must_false _).mono ?_
        rintro e w2 ⟨rfl, rfl⟩
        go_wp2_with fail
        exact ⟨rfl, hk, .inl ⟨HN.out, rfl⟩⟩
      · obtain ⟨e1, e2, e3⟩ := numO_of hd h0 h6
        rw [← e1] at cP
        rw [hd] at cD
        generalize numO x = m at *
        generalize (parseW x).2 = pe at *
        clear e1 hd
        go_enter Tryz.func188, Tryz.ntmps188
        go_wp2_with fail
        refine cN.mono ?_
        rintro e w1 ⟨rfl, ⟨R1, d1, hJ⟩, hk⟩
        clear cN
        go_wp2_with fail
        refine (cD _).mono ?_
        rintro e w2 ⟨rfl, rfl⟩
        go_wp2_with fail
        refine (must_true _).mono ?_
        rintro e w2 ⟨rfl, rfl⟩
        go_wp2_with fail
        refine (cP _).mono ?_
        rintro e w2 ⟨rfl, hb⟩
        have HK := hid (hk.trans (Kept.of_below hb))
        have HJ := hid (hJ.below hb)
        clear hk hJ hb
        go_wp2_with fail
        go_ret
        exact ⟨HK.out, .inr ⟨e2, e3, rfl, R1, d1, HJ.out⟩⟩
  · have hi : ¬ (x.length : Int) ≤ 6 := by omega
    have HN := hid (show numO x < 0 by rw [numO_bad (x := x) (fun h => h6 h.2.2)]; decide)
    clear h6
    go_enter Tryz.func188, Tryz.ntmps188
    go_wp2_with fail
    refine cN.mono ?_
    rintro e w1 ⟨rfl, -, hk⟩
    clear cN
    go_wp2_with fail
    refine (must_false _).mono ?_
    rintro e w2 ⟨rfl, rfl⟩
    go_wp2_with fail
    exact ⟨rfl, hk, .inl ⟨HN.out, rfl⟩⟩
theorem linesA_not {l : List (List UInt8)} (h : l.head? ≠ some [45, 110]) : linesA l = (10, l) := by
  unfold linesA
  split
  · rename_i a b r
    rw [if_neg (fun e => h (by rw [e]; rfl))]
  · rfl
theorem linesA_is (b : List UInt8) (r : List (List UInt8)) : linesA ([45, 110] :: b :: r) = (numO b, r) := by
  show (if ([45, 110] : List UInt8) = [45, 110] then (numO b, r) else (10, [45, 110] :: b :: r)) = _
  exact if_pos rfl
set_option linter.unusedSimpArgs false in
set_option maxHeartbeats 1000000 in
theorem lines_any (h : JobAt W N B C c R d o st t rd l inn) (hz : sizeTs l ≤ 1099511627776) :
    Calls Tryz.prog 111 #[.pointer (some ⟨B, 0, none⟩)] W fun e w' => Kept B W w' ∧ (((linesA l).1 < 0 ∨ l = [[45, 110]]) ∧ e = .panicked [faultU 2 0] ∨ ¬ ((linesA l).1 < 0 ∨ l = [[45, 110]]) ∧ 0 ≤ (linesA l).1 ∧ (linesA l).1 < 1000000 ∧ e = .returned (.int .i64 (linesA l).1) ∧ ∃ R' d', JobAt w' N B C c R' d' o st t rd (linesA l).2 inn) := by
  have hlz := sizeTs_len l
  by_cases h0 : l.head? = some [45, 110]
  · obtain ⟨r, rfl⟩ : ∃ r, l = [45, 110] :: r := by
      cases l with
      | nil => cases h0
      | cons x r => exact ⟨r, by rw [Option.some.inj h0]⟩
    have cT := taken_is [45, 110] r h (by simp at hlz; omega)
    have hr1 : r.length ≤ 1099511627776 := by simp at hlz; omega
    have hr2 : ∀ x s, r = x :: s → x.length ≤ 1099511627776 := fun x s e => by
      have := sizeTs_mem ([45, 110] :: r) x (by rw [e]; exact .tail _ (.head _))
      omega
    clear h h0 hlz hz
    rcases r with _ | ⟨b, r⟩
    · go_enter Tryz.func111, Tryz.ntmps111
      go_wp2_with fail
      refine cT.mono ?_
      rintro e w1 ⟨rfl, ⟨R1, d1, hJ⟩, hk⟩
      have cC := count_nil hJ
      clear cT
      go_wp2_with fail
      refine cC.mono ?_
      rintro e w2 ⟨rfl, rfl⟩
      go_wp2_with fail
      exact ⟨rfl, hk, .inl ⟨.inr (by trivial), rfl⟩⟩
    · have hb := hr2 b r rfl
      rw [linesA_is]
      simp only [List.length_cons] at hr1
      clear hr2
      go_enter Tryz.func111, Tryz.ntmps111
      go_wp2_with fail
      refine cT.mono ?_
      rintro e w1 ⟨rfl, ⟨R1, d1, hJ⟩, hk⟩
      have cC := count_cons hJ (by omega) hb
      clear cT
      go_wp2_with fail
      refine cC.mono ?_
      rintro e w2 ⟨hk2, ⟨hn, rfl⟩ | ⟨h1, h2, rfl, hJ2⟩⟩
      · go_wp2_with fail
        exact ⟨rfl, hk.trans hk2, .inl ⟨.inl hn, rfl⟩⟩
      · go_wp2_with fail
        go_ret
        exact ⟨hk.trans hk2, .inr ⟨by rintro (h | h); exact absurd h1 (by show ¬ (0 : Int) ≤ numO b; have h : numO b < 0 := h; omega); simp at h, h1, h2, rfl, hJ2⟩⟩
  · have cT := taken_not [45, 110] h (by omega) h0
    have hJ := hid h
    have HL := hid (linesA_not h0)
    have HZ := hid h0
    clear h h0
    go_enter Tryz.func111, Tryz.ntmps111
    go_wp2_with fail
    refine cT.mono ?_
    rintro e w1 ⟨rfl, rfl⟩
    go_wp2_with fail
    go_ret
    rw [HL.out]
    exact ⟨Kept.refl _ _, .inr ⟨by rintro (h | h); exact absurd (show (10 : Int) < 0 from h) (by decide); exact HZ.out (by rw [h]; rfl), by show (0 : Int) ≤ 10; decide, by show (10 : Int) < 1000000; decide, rfl, _, _, hJ.out⟩⟩
end
end Go.Proofs.YtgbibgppjicbgaaGreatDoor

namespace Go.Proofs.YtgbibgppjicbgaaGreatDoor
open Go.RowKit
theorem all_u8 {p : UInt8 → Prop} (h : ∀ n : Fin 256, p (UInt8.ofFin n)) : ∀ c, p c := fun c => h c.toFin
theorem restOf_ten (r : List UInt8) : restOf (10 :: r) = r := by simp [restOf]
theorem restOf_other (c : UInt8) (r : List UInt8) (h : c ≠ 10) : restOf (c :: r) = restOf r := by
  have hc : (c != 10) = true := by simpa using h
  unfold restOf
  rw [List.dropWhile_cons_of_pos (p := (· != 10)) hc]
theorem keptL_ten (r : List UInt8) : keptL (10 :: r) = [10] :: keptL r := by rw [keptL, if_pos rfl]
theorem keptL_some (c : UInt8) (r : List UInt8) (h : c ≠ 10) {x : List UInt8} {t : List (List UInt8)} (hr : keptL r = x :: t) : keptL (c :: r) = (c :: x) :: t := by rw [keptL, if_neg h, hr]
theorem kept_step : ∀ l : List UInt8, l ≠ [] → ∃ x, keptL l = x :: keptL (restOf l)
  | [], h => absurd rfl h
  | c :: r, _ => by
    by_cases hc : c = 10
    · subst hc
      exact ⟨[10], by rw [keptL_ten, restOf_ten]⟩
    · rw [restOf_other c r hc]
      cases r with
      | nil => exact ⟨[c], by simp [keptL, hc, restOf]⟩
      | cons d q =>
        obtain ⟨x, hx⟩ := kept_step (d :: q) (by simp)
        exact ⟨c :: x, keptL_some c _ hc hx⟩
theorem kept_drop {s l : List UInt8} {k : Nat} (h : keptL l = (keptL s).drop k) (hl : l ≠ []) : keptL (restOf l) = (keptL s).drop (k + 1) := by
  obtain ⟨x, hx⟩ := kept_step l hl
  rw [← List.drop_drop, ← h, hx]
  rfl
theorem head_left {s l : List UInt8} {k : Nat} (h : keptL l = (keptL s).drop k) : ((keptL s).take k).flatten ++ l = s ∧ l.length ≤ s.length ∧ s.take (s.length - l.length) = ((keptL s).take k).flatten := by
  have e : ((keptL s).take k).flatten ++ l = s := by
    have h1 := kept_flat l
    rw [h] at h1
    rw [← h1, ← List.flatten_append, List.take_append_drop, kept_flat]
  have hl := congrArg List.length e
  rw [List.length_append] at hl
  refine ⟨e, by omega, ?_⟩
  have : s.length - l.length = ((keptL s).take k).flatten.length := by omega
  rw [this]
  conv => lhs; arg 2; rw [← e]
  exact List.take_left' rfl
theorem head_end {s l : List UInt8} {k : Nat} {n : Int} (h : keptL l = (keptL s).drop k) (hk : k ≤ n.toNat) (he : n - k ≤ 0 ∨ l = []) : s.take (s.length - l.length) = headL s n := by
  rw [(head_left h).2.2]
  unfold headL
  rcases he with e | e
  · rw [show n.toNat = k by omega]
  · subst e
    have h0 : (keptL s).length ≤ k := by
      have := congrArg List.length h
      rw [show keptL [] = [] from rfl, List.length_drop] at this
      simp at this
      omega
    rw [List.take_of_length_le h0, List.take_of_length_le (by omega)]
theorem kept_app : ∀ (a r : List UInt8), (a = [] ∨ a.getLast? = some 10) → keptL (a ++ r) = keptL a ++ keptL r
  | [], r, _ => rfl
  | [c], r, h => by
    obtain rfl : c = 10 := by rcases h with h | h; cases h; simpa using h
    simp [keptL]
  | c :: d :: a, r, h => by
    have ih := kept_app (d :: a) r (.inr (by rcases h with h | h; cases h; simpa [List.getLast?_cons_cons] using h))
    rw [List.cons_append]
    by_cases hc : c = 10
    · subst hc
      rw [keptL_ten, keptL_ten, ih]; rfl
    · obtain ⟨x, hx⟩ := kept_step (d :: a) (by simp)
      rw [hx] at ih
      rw [keptL_some c _ hc hx, keptL_some c _ hc ih]
      rfl
theorem kept_one : ∀ (b : List UInt8) (c : UInt8), (∀ x ∈ b, x ≠ 10) → keptL (b ++ [c]) = [b ++ [c]]
  | [], c, _ => by by_cases h : c = 10 <;> simp [keptL, h]
  | d :: b, c, h => by
    have ih := kept_one b c fun x hx => h x (by simp [hx])
    rw [List.cons_append, keptL, if_neg (h d (by simp)), ih]
theorem kept_last (p : List UInt8) (j i : Nat) (hj : j + 1 = p.length) (hi : i ≤ j) (h10 : i = 0 ∨ (p.take i).getLast? = some 10) (hno : ∀ k (h : k < p.length), i ≤ k → k < j → p[k] ≠ 10) : keptL p = keptL (p.take i) ++ [p.drop i] := by
  have e : p.drop i = (p.drop i).take (j - i) ++ [p[j]'(by omega)] := by
    conv => lhs; rw [← List.take_append_drop (j - i) (p.drop i)]
    congr 1
    rw [List.drop_drop, show i + (j - i) = j by omega, List.drop_eq_getElem_cons (by omega), show j + 1 = p.length from hj, List.drop_length]
  have h1 : keptL (p.drop i) = [p.drop i] := by
    rw [e]
    refine kept_one _ _ fun x hx => ?_
    obtain ⟨k, hk, rfl⟩ := List.getElem_of_mem hx
    rw [List.length_take, List.length_drop] at hk
    rw [List.getElem_take, List.getElem_drop]
    exact hno (i + k) (by omega) (by omega) (by omega)
  conv => lhs; rw [← List.take_append_drop i p]
  rw [kept_app _ _ (by rcases h10 with h | h; exact .inl (by rw [h]; rfl); exact .inr h), h1]
theorem kept_back {s : List UInt8} {p i k : Nat} (h : keptL (s.take p) = (keptL s).take ((keptL s).length - k)) (hk : keptL (s.take p) = keptL (s.take i) ++ [(s.take p).drop i]) : keptL (s.take i) = (keptL s).take ((keptL s).length - (k + 1)) := by
  have h2 : keptL (s.take i) = (keptL (s.take p)).take ((keptL (s.take p)).length - 1) := by
    rw [hk, List.length_append, List.length_singleton, Nat.add_sub_cancel]
    exact (List.take_left' rfl).symm
  rw [h2, h, List.take_take, List.length_take]
  congr 1
  omega
theorem last_left {s : List UInt8} {p k : Nat} (h : keptL (s.take p) = (keptL s).take ((keptL s).length - k)) : s.drop p = ((keptL s).drop ((keptL s).length - k)).flatten := by
  have e := kept_flat s
  rw [← List.take_append_drop ((keptL s).length - k) (keptL s), List.flatten_append, ← h, kept_flat] at e
  exact List.append_cancel_left ((List.take_append_drop p s).trans e.symm)
theorem last_end {s : List UInt8} {p k : Nat} {n : Int} (h : keptL (s.take p) = (keptL s).take ((keptL s).length - k)) (hp : p ≤ s.length) (hk : k ≤ n.toNat) (he : n - k ≤ 0 ∨ p = 0) : s.drop p = lastL3 s n := by
  rw [last_left h]
  unfold lastL3
  rcases he with e | e
  · rw [show n.toNat = k by omega]
  · subst e
    have h0 : (keptL s).length ≤ k := by
      have := congrArg List.length h
      rw [List.take_zero, show keptL [] = [] from rfl, List.length_take] at this
      simp at this
      omega
    rw [show (keptL s).length - k = 0 by omega, show (keptL s).length - n.toNat = 0 by omega]
def inW (b : Bool) (a : List UInt8) : Bool := match a.getLast? with | none => b | some d => !blankW d
theorem words_snoc : ∀ (a : List UInt8) (b : Bool) (c : UInt8), wordsN b (a ++ [c]) = wordsN b a + if blankW c then 0 else if inW b a then 0 else 1
  | [], b, c => by cases hb : blankW c <;> cases b <;> simp [wordsN, inW, hb]
  | d :: a, b, c => by
    rw [List.cons_append, wordsN, wordsN]
    have hi : inW (!blankW d) a = inW b (d :: a) := by
      cases a with
      | nil => rfl
      | cons x y =>
        unfold inW
        rw [List.getLast?_cons_cons]
        cases h : (x :: y).getLast? with
        | none => simp at h
        | some z => rfl
    cases hd : blankW d
    · rw [hd] at hi
      have hn : ¬ (false = true) := by simp
      rw [if_neg hn, if_neg hn, words_snoc a true c, ← hi]
      simp only [Bool.not_false]
      omega
    · rw [hd] at hi
      rw [if_pos rfl, if_pos rfl, words_snoc a false c, ← hi]
      simp only [Bool.not_true]
theorem words_take (s : List UInt8) (k : Nat) (hk : k < s.length) : wordsN false (s.take (k + 1)) = wordsN false (s.take k) + if blankW s[k] then 0 else if (if h : 0 < k then !blankW (s[k - 1]'(by omega)) else false) then 0 else 1 := by
  rw [List.take_succ_eq_append_getElem hk, words_snoc]
  congr 3
  by_cases h : 0 < k
  · rw [dif_pos h]
    unfold inW
    obtain ⟨j, rfl⟩ : ∃ j, k = j + 1 := ⟨k - 1, by omega⟩
    rw [List.take_succ_eq_append_getElem (by omega), List.getLast?_concat]
    rfl
  · obtain rfl : k = 0 := by omega
    rfl
theorem blank_index : ∀ c : UInt8, decide (0 ≤ Lib.indexByte [32, 9, 10, 13] c) = blankW c := all_u8 (by decide +kernel)
end Go.Proofs.YtgbibgppjicbgaaGreatDoor

namespace Go.Proofs.YtgbibgppjicbgaaGreatDoor
open Go.RowKit
open Go.Lib (hid)
theorem mk_take (s : ByteArray) (i : Nat) : (⟨(s.data.toList.take i).toArray⟩ : ByteArray) = s.extract 0 i := by
  apply ByteArray.ext
  apply Array.toList_inj.1
  rw [ByteArray.data_extract, Array.toList_extract, List.extract_eq_take_drop]
  simp
theorem mk_drop (s : ByteArray) (i : Nat) : (⟨(s.data.toList.drop i).toArray⟩ : ByteArray) = s.extract i s.size := by
  apply ByteArray.ext
  apply Array.toList_inj.1
  rw [ByteArray.data_extract, Array.toList_extract, List.extract_eq_take_drop, List.take_of_length_le (by rw [List.length_drop, len_toList]; omega)]
set_option maxHeartbeats 1000000 in
theorem cutLite_ten (s : ByteArray) (w : World) (hs : s.size ≤ 281474976710656) :
    Calls Tryz.prog 247 #[.string s, .string ⟨#[10]⟩] w fun e w' => ∃ b n, e = .returned (.tuple #[.string ⟨(lineOf s.data.toList).toArray⟩, .string ⟨(restOf s.data.toList).toArray⟩, .bool b]) ∧ w' = w.drewN n := by
  have cI := fun W => Tryz.stringslite_Index_one s 10 W
  rcases index_ten s.data.toList with ⟨h1, h2, h3⟩ | ⟨i, h1, h2, h3, h4⟩
  · rw [h1] at cI
    have e1 : (⟨(lineOf s.data.toList).toArray⟩ : ByteArray) = s := by rw [h2]
    have e2 : (⟨(restOf s.data.toList).toArray⟩ : ByteArray) = ⟨#[]⟩ := by rw [h3]
    rw [e1, e2]
    clear h1 h2 h3 e1 e2
    go_enter Tryz.func247, Tryz.ntmps247
    go_wp2_with (go_at_call 264; (with_reducible refine (cI _).mono ?_); rintro e w' ⟨rfl, rfl⟩)
    go_ret3
    exact ⟨_, 0, rfl, rfl⟩
  · rw [h1] at cI
    rw [len_toList] at h2
    have e1 : (⟨(lineOf s.data.toList).toArray⟩ : ByteArray) = s.extract 0 i := by rw [h3]; exact mk_take s i
    have e2 : (⟨(restOf s.data.toList).toArray⟩ : ByteArray) = s.extract (i + 1) s.size := by rw [h4]; exact mk_drop s (i + 1)
    rw [e1, e2]
    clear h1 h3 h4 e1 e2
    go_enter Tryz.func247, Tryz.ntmps247
    go_wp2_with (go_at_call 264; (with_reducible refine (cI _).mono ?_); rintro e w' ⟨rfl, rfl⟩)
    go_quiet (fail)
    go_wp2_with fail
    go_ret3
    exact ⟨_, _, rfl, rfl⟩
set_option maxHeartbeats 1000000 in
theorem cut_ten (s : ByteArray) (w : World) (hs : s.size ≤ 281474976710656) :
    Calls Tryz.prog 172 #[.string s, .string ⟨#[10]⟩] w fun e w' => ∃ b n, e = .returned (.tuple #[.string ⟨(lineOf s.data.toList).toArray⟩, .string ⟨(restOf s.data.toList).toArray⟩, .bool b]) ∧ w' = w.drewN n := by
  go_enter Tryz.func172, Tryz.ntmps172
  go_wp2_with fail
  refine (cutLite_ten s _ hs).mono ?_
  rintro e w' ⟨b, n, rfl, rfl⟩
  go_wp2_with fail
  go_ret3
  exact ⟨b, n, rfl, rfl⟩
def OutT (N B : Nat) (ls : List (List UInt8)) (w : World) : Prop :=
  ∃ v, w.heap[B]? = some (.cells #[v] 22 (0, 0)) ∧ w.ownsRow N 9 1 v ls.length (ls.map encS) ∧ v.ownBlock ≠ some B ∧ N ≤ B
theorem ownT_ne_box {N B n : Nat} {xs : List Value} {w : World} {v x : Value} (hB : w.heap[B]? = some (.cells #[x] 22 (0, 0))) (ho : w.ownsRow N 9 1 v n xs) : v.ownBlock ≠ some B := by
  intro he
  rcases ho.2 with ⟨rfl, _⟩ | ⟨g, cap, cur, rfl, _, hh, _⟩
  · simp [Value.ownBlock] at he
  · simp only [Value.ownBlock, Option.some.injEq] at he
    subst he
    rw [hB] at hh
    simp at hh
theorem OutT.stored {N B : Nat} {l2 : List (List UInt8)} {w w1 : World} {v v' : Value} (hbk : w.heap[B]? = some (.cells #[v] 22 (0, 0))) (hne : v.ownBlock ≠ some B) (hNB : N ≤ B)
    (hg : w.grownBy w1 v.ownBlock) (ho : w1.ownsRow N 9 1 v' l2.length (l2.map encS)) : OutT N B l2 (w1.setCell ⟨B, 0, none⟩ v') := by
  have hb : w1.heap[B]? = some (.cells #[v] 22 (0, 0)) := (hg.block B (lt_of_block hbk) (fun e => hne e.symm)).trans hbk
  have hn := ownT_ne_box hb ho
  exact ⟨v', one_setCell hb, ownsRow_setCell_other ho hn v', hn, hNB⟩
end Go.Proofs.YtgbibgppjicbgaaGreatDoor

namespace Go.Proofs.YtgbibgppjicbgaaGreatDoor
open Go.RowKit
open Go.Lib (hid)
theorem mk_len (l : List UInt8) : (⟨l.toArray⟩ : ByteArray).size = l.length := by simp [ByteArray.size]
set_option linter.unusedSimpArgs false in
set_option maxHeartbeats 2000000 in
theorem head_any (s : List UInt8) (n : Int) (w : World) (hs : s.length ≤ 140737488355328) (n0 : -9223372036854775808 ≤ n) (n1 : n ≤ 9223372036854775807) :
    Calls Tryz.prog 113 #[encS s, .int .i64 n] w fun e w' => e = .returned (encS (headL s n)) ∧ Below w.heap.size w w' := by
  obtain ⟨r0, hR⟩ : ∃ r, headL s n = r := ⟨_, rfl⟩
  rw [hR]
  have HR := hid hR
  clear hR
  go_enter Tryz.func113, Tryz.ntmps113
  go_wp2_with fail
  go_loopw [1, 5] (fun vn v wr => ∃ (k q : Nat) (l : List UInt8) (m : Int), v = encS l ∧ vn = .int .i64 m ∧ m = n - k ∧ k ≤ n.toNat ∧ Hid (keptL l = (keptL s).drop k) ∧ l.length ≤ s.length ∧ Hid (wr = w.drewN q)) (fun vn _ _ => (intOf vn).toNat)
  case atStart => exact ⟨0, 0, s, n, rfl, rfl, by omega, Nat.zero_le _, hid rfl, Nat.le_refl _, hid rfl⟩
  case round =>
    obtain ⟨k, q, l, m, rfl, rfl, hm, hk, HL, hl, HW⟩ := hrel
    by_cases h0 : 0 < m
    · by_cases hl0 : l = []
      · have HE := hid ((head_end HL.out hk (.inr hl0)).trans HR.out)
        subst hl0
        have cC := fun W => clone_any r0 (by rw [← HE.out, List.length_take]; omega) W
        have hsl : (⟨s.toArray⟩ : ByteArray).extract 0 s.length = ⟨r0.toArray⟩ := by rw [← HE.out]; apply ByteArray.ext; simp
        clear HL HE
        go_wp2_with fail
        refine (cC _).mono ?_
        rintro e w1 ⟨rfl, hb⟩
        go_wp2_with fail
        go_ret
        rw [HW.out] at hb
        exact ⟨rfl, (below_drewN (Below.refl _ _) q).trans hb⟩
      · have hlne : (l == []) = false := by simpa using hl0
        have HN := hid (kept_drop HL.out hl0)
        have hr : (restOf l).length ≤ l.length := by
          have := lineOf_rest l
          omega
        have cC := fun W => cut_ten ⟨l.toArray⟩ W (by rw [mk_len]; omega)
        generalize restOf l = r at *
        generalize lineOf l = r1 at *
        clear HL
        go_wp2_with fail
        refine (cC _).mono ?_
        rintro e w1 ⟨b, j, rfl, rfl⟩
        go_wp2_with fail
        go_roundw
        case rel => exact ⟨k + 1, q + j, r, n - (k + 1), rfl, by go_num, by omega, by omega, HN, by omega, hid (by rw [HW.out]; simp)⟩
        case measure => simp [intOf]; omega
    · have HE := hid ((head_end HL.out hk (.inl (by omega))).trans HR.out)
      have hkz : s.length - l.length ≤ s.length := by omega
      have cC := fun W => clone_any r0 (by rw [← HE.out, List.length_take]; omega) W
      obtain ⟨z, hz⟩ : ∃ z : Nat, s.length - l.length = z := ⟨_, rfl⟩
      have hzi : (s.length : Int) - (l.length : Int) = z := by omega
      have hsl : (⟨s.toArray⟩ : ByteArray).extract 0 z = ⟨r0.toArray⟩ := by rw [← HE.out, hz]; apply ByteArray.ext; simp
      clear HL HE
      go_wp2_with fail
      refine (cC _).mono ?_
      rintro e w1 ⟨rfl, hb⟩
      go_wp2_with fail
      go_ret
      rw [HW.out] at hb
      exact ⟨rfl, (below_drewN (Below.refl _ _) q).trans hb⟩
set_option linter.unusedSimpArgs false in
set_option maxHeartbeats 2000000 in
theorem tail_any (s : List UInt8) (n : Int) (w : World) (hs : s.length ≤ 140737488355328) (n0 : -9223372036854775808 ≤ n) (n1 : n ≤ 9223372036854775807) :
    Calls Tryz.prog 115 #[encS s, .int .i64 n] w fun e w' => e = .returned (encS (lastL3 s n)) ∧ Below w.heap.size w w' := by
  obtain ⟨r0, hR⟩ : ∃ r, lastL3 s n = r := ⟨_, rfl⟩
  rw [hR]
  have HR := hid hR
  clear hR
  have hslice : ∀ z, (⟨s.toArray⟩ : ByteArray).extract z s.length = ⟨(s.drop z).toArray⟩ := fun z => by have h := mk_drop ⟨s.toArray⟩ z; rw [mk_len] at h; exact h.symm
  have hhead : ∀ z, (⟨s.toArray⟩ : ByteArray).extract 0 z = ⟨(s.take z).toArray⟩ := fun z => by apply ByteArray.ext; simp
  go_enter Tryz.func115, Tryz.ntmps115
  go_wp2_with fail
  go_loopw [1, 5] (fun vn v wr => ∃ (k p q : Nat) (m : Int), v = .int .i64 p ∧ vn = .int .i64 m ∧ m = n - k ∧ k ≤ n.toNat ∧ p ≤ s.length ∧ Hid (keptL (s.take p) = (keptL s).take ((keptL s).length - k)) ∧ Hid (wr = w.drewN q)) (fun vn _ _ => (intOf vn).toNat)
  case atStart => exact ⟨0, s.length, 0, n, rfl, rfl, by omega, Nat.zero_le _, Nat.le_refl _, hid (by rw [List.take_length, Nat.sub_zero, List.take_length]), hid rfl⟩
  case round =>
    obtain ⟨k, p, q, m, rfl, rfl, hm, hk, hp, HL, HW⟩ := hrel
    by_cases h0 : 0 < m ∧ 0 < p
    · obtain ⟨h0, hp0⟩ := h0
      have hi : (p : Int) - 1 = ((p - 1 : Nat) : Int) := by omega
      obtain ⟨j, hj⟩ : ∃ j, p - 1 = j := ⟨_, rfl⟩
      rw [hj] at hi
      have hsl := hhead j
      have cI := fun W => Tryz.strings_LastIndexByte ⟨(s.take j).toArray⟩ 10 (by rw [mk_len, List.length_take]; omega) W
      obtain ⟨i, hia, hib, HN⟩ : ∃ i : Nat, Lib.lastIndexByte ⟨(s.take j).toArray⟩ 10 = (i : Int) - 1 ∧ i ≤ j ∧ Hid (keptL (s.take i) = (keptL s).take ((keptL s).length - (k + 1))) := by
        have hat : ∀ x (h : x < j), ((⟨(s.take j).toArray⟩ : ByteArray).data[x]!).toNat = (s[x]'(by omega)).toNat := fun x h => by
          have hx : x < (s.take j).length := by rw [List.length_take]; omega
          simp [List.getElem?_take_of_lt h, List.getElem?_eq_getElem (show x < s.length by omega)]
        have hlj : (⟨(s.take j).toArray⟩ : ByteArray).size = j := by rw [mk_len, List.length_take]; omega
        rcases Lib.lastIndexByte_spec ⟨(s.take j).toArray⟩ 10 with ⟨e, hn⟩ | ⟨x, hx, e, hc, hn⟩
        · rw [hlj] at hn
          refine ⟨0, by rw [e]; omega, Nat.zero_le _, hid (kept_back HL.out ?_)⟩
          have := kept_last (s.take p) j 0 (by rw [List.length_take]; omega) (Nat.zero_le _) (.inl rfl) fun y hy _ h2 e => by
            rw [List.getElem_take] at e
            refine hn y h2 ?_
            rw [hat y h2, e]; rfl
          simpa using this
        · rw [hlj] at hx hn
          refine ⟨x + 1, by rw [e]; omega, by omega, hid (kept_back HL.out ?_)⟩
          have h10 : s[x]'(by omega) = 10 := by
            rw [hat x hx] at hc
            exact UInt8.toNat_inj.1 (show (s[x]'(by omega)).toNat = 10 by omega)
          have := kept_last (s.take p) j (x + 1) (by rw [List.length_take]; omega) (by omega) (.inr (by
            rw [List.take_take, Nat.min_eq_left (by omega), List.take_succ_eq_append_getElem (by omega), List.getLast?_concat, h10])) fun y hy h1 h2 e => by
            rw [List.getElem_take] at e
            refine hn y (by omega) h2 ?_
            rw [hat y h2, e]; rfl
          rw [List.take_take, Nat.min_eq_left (by omega)] at this
          exact this
      rw [hia] at cI
      have hii : (i : Int) - 1 + 1 = (i : Int) := by omega
      clear HL hhead hslice
      go_wp2_with fail
      refine (cI _).mono ?_
      rintro e w1 ⟨rfl, rfl⟩
      go_wp2_with fail
      go_roundw
      case rel => exact ⟨k + 1, i, q, n - (k + 1), by go_num, by go_num, by omega, by omega, by omega, HN, HW⟩
      case measure => simp [intOf]; omega
    · have HE := hid ((last_end HL.out hp hk (by omega)).trans HR.out)
      have cC := fun W => clone_any r0 (by rw [← HE.out, List.length_drop]; omega) W
      have hsl := hslice p
      rw [HE.out] at hsl
      clear HL HE hhead hslice
      have hcase : (0 < m ∧ ¬ 0 < p) ∨ ¬ 0 < m := by omega
      rcases hcase with ⟨h1, h2⟩ | h1
      · obtain rfl : p = 0 := by omega
        go_wp2_with fail
        refine (cC _).mono ?_
        rintro e w1 ⟨rfl, hb⟩
        go_wp2_with fail
        go_ret
        rw [HW.out] at hb
        exact ⟨rfl, (below_drewN (Below.refl _ _) q).trans hb⟩
      · go_wp2_with fail
        refine (cC _).mono ?_
        rintro e w1 ⟨rfl, hb⟩
        go_wp2_with fail
        go_ret
        rw [HW.out] at hb
        exact ⟨rfl, (below_drewN (Below.refl _ _) q).trans hb⟩
end Go.Proofs.YtgbibgppjicbgaaGreatDoor

namespace Go.Proofs.YtgbibgppjicbgaaGreatDoor
open Go.RowKit
open Go.Lib (hid)
set_option linter.unusedSimpArgs false in
set_option maxHeartbeats 1000000 in
theorem wparts_any (B : Nat) (s : List UInt8) (i : Nat) (w : World) (hi : i < s.length) (hc : w.cell? ⟨B, 0, none⟩ = some (encS s)) :
    Calls Tryz.prog 262 (#[.int .i64 i] ++ #[.pointer (some ⟨B, 0, none⟩)]) w fun e w' => e = .returned (.bool (blankW s[i])) ∧ w' = w := by
  have hb := blank_index s[i]
  obtain ⟨z, hz⟩ : ∃ z, Lib.indexByte [32, 9, 10, 13] s[i] = z := ⟨_, rfl⟩
  have cI2 : ∀ W, Calls Tryz.prog 96 #[.string ⟨#[32, 9, 10, 13]⟩, .int .u8 (s[i].toNat : Int)] W fun e w' => e = .returned (.int .i64 z) ∧ w' = W := fun W => by
    have := Tryz.strings_IndexByte ⟨#[32, 9, 10, 13]⟩ (s[i].toNat : Int) W
    rw [show ((s[i].toNat : Int).toNat.toUInt8) = s[i] by simp, show (⟨#[32, 9, 10, 13]⟩ : ByteArray).data.toList = [32, 9, 10, 13] from rfl, hz] at this
    exact this
  rw [hz] at hb
  have HB := hid hb
  clear hb hz
  go_enter Tryz.func262, Tryz.ntmps262
  go_wp2_with fail
  refine (cI2 _).mono ?_
  rintro e w1 ⟨rfl, rfl⟩
  go_wp2_with fail
  go_ret
  exact ⟨by rw [← HB.out]; rfl, rfl⟩
theorem words_le : ∀ (l : List UInt8) (b : Bool), wordsN b l ≤ l.length
  | [], _ => by simp [wordsN]
  | c :: r, b => by
    rw [wordsN]
    split
    · have := words_le r false; simp; omega
    · have := words_le r true; cases b <;> simp <;> omega
set_option linter.unusedSimpArgs false in
set_option maxHeartbeats 4000000 in
theorem count_any (s : List UInt8) (w : World) (hs : s.length ≤ 281474976710656) :
    Calls Tryz.prog 189 #[encS s] w fun e w' => e = .returned (.tuple #[.int .i64 (tensN s), .int .i64 (wordsN false s), .int .i64 s.length]) ∧ Below w.heap.size w w' := by
  obtain ⟨N, hN⟩ : ∃ N, w.heap.size = N := ⟨_, rfl⟩
  have HN := hid hN
  have hbx : Hid ((w.alloc (.cells #[encS s] 9)).heap[N]? = some (.cells #[encS s] 9 (0, 0)) ∧ Below N w (w.alloc (.cells #[encS s] 9))) := hid ⟨by rw [← hN]; exact heap_alloc_new w _, by rw [← hN]; exact (Below.refl _ _).alloc (Nat.le_refl _) _⟩
  have cC := fun W => Tryz.strings_Count_one ⟨s.toArray⟩ 10 W
  rw [show Lib.countByte (⟨s.toArray⟩ : ByteArray).data.toList 10 = tensN s from rfl] at cC
  generalize tensN s = ts at *
  obtain ⟨nt, hnt⟩ : ∃ x, wordsN false s = x := ⟨_, rfl⟩
  rw [hnt]
  have HT := hid hnt
  clear hnt
  have cP := fun i (h : i < s.length) W hc => wparts_any N s i W h hc
  go_enter Tryz.func189, Tryz.ntmps189
  go_wp2_with fail
  go_loopw [6, 11] (fun vc vi wr => ∃ (k q : Nat), k ≤ s.length ∧ vi = .int .i64 k ∧ vc = .int .i64 (wordsN false (s.take k) : Nat) ∧ Hid (wr = (w.alloc (.cells #[encS s] 9)).drewN q)) (fun _ vi _ => s.length - (intOf vi).toNat)
  case atStart => exact ⟨0, 0, Nat.zero_le _, rfl, rfl, hid rfl⟩
  case round =>
    obtain ⟨k, q, hk, rfl, rfl, HW⟩ := hrel
    have hbk : wr.heap[N]? = some (.cells #[encS s] 9 (0, 0)) := by rw [HW.out]; exact hbx.out.1
    have c0 : wr.cell? ⟨N, 0, none⟩ = some (encS s) := cell_of_one hbk
    have hbl : Hid (Below N w wr) := hid (by rw [HW.out]; exact below_drewN hbx.out.2 q)
    have hw1 := words_le (s.take k) false
    rw [List.length_take] at hw1
    by_cases hlt : k < s.length
    · have hst := words_take s k hlt
      have cA := cP k hlt
      obtain ⟨a, ha⟩ : ∃ a, blankW s[k] = a := ⟨_, rfl⟩
      rw [ha] at hst cA
      cases a with
      | true =>
        have HS : Hid (wordsN false (s.take (k + 1)) = wordsN false (s.take k)) := hid (by rw [hst, if_pos rfl]; omega)
        clear hst cP
        generalize wordsN false (s.take k) = nw at *
        go_wp2_with fail
        refine (cA _ c0).mono ?_
        rintro e w1 ⟨rfl, rfl⟩
        go_wp2_with fail
        go_roundw
        case rel => exact ⟨k + 1, q, by omega, by go_num, by rw [HS.out], HW⟩
        case measure => simp [intOf]; omega
      | false =>
        by_cases hk0 : 0 < k
        · have cB := cP (k - 1) (by omega)
          have hki : ((k : Int) - 1) = ((k - 1 : Nat) : Int) := by omega
          rw [dif_pos hk0] at hst
          obtain ⟨b, hb⟩ : ∃ b, blankW (s[k - 1]'(by omega)) = b := ⟨_, rfl⟩
          rw [hb] at hst cB
          obtain ⟨j, hj⟩ : ∃ j, k - 1 = j := ⟨_, rfl⟩
          rw [hj] at cB hki
          cases b with
          | true =>
            have HS : Hid (wordsN false (s.take (k + 1)) = wordsN false (s.take k) + 1) := hid (by rw [hst]; simp)
            clear hst cP
            generalize wordsN false (s.take k) = nw at *
            have hk1 : ((k : Int) == 0) = false := by simp; omega
            go_wp2_with fail
            refine (cA _ c0).mono ?_
            rintro e w1 ⟨rfl, rfl⟩
            go_wp2_with fail
            refine (cB _ c0).mono ?_
            rintro e w1 ⟨rfl, rfl⟩
            go_wp2_with fail
            go_roundw
            case rel => exact ⟨k + 1, q, by omega, by go_num, by rw [HS.out]; go_num, HW⟩
            case measure => simp [intOf]; omega
          | false =>
            have HS : Hid (wordsN false (s.take (k + 1)) = wordsN false (s.take k)) := hid (by rw [hst]; simp)
            clear hst cP
            generalize wordsN false (s.take k) = nw at *
            have hk1 : ((k : Int) == 0) = false := by simp; omega
            go_wp2_with fail
            refine (cA _ c0).mono ?_
            rintro e w1 ⟨rfl, rfl⟩
            go_wp2_with fail
            refine (cB _ c0).mono ?_
            rintro e w1 ⟨rfl, rfl⟩
            go_wp2_with fail
            go_roundw
            case rel => exact ⟨k + 1, q, by omega, by go_num, by rw [HS.out], HW⟩
            case measure => simp [intOf]; omega
        · obtain rfl : k = 0 := by omega
          have HS : Hid (wordsN false (s.take (0 + 1)) = wordsN false (s.take 0) + 1) := hid (by rw [hst]; simp)
          clear hst cP
          generalize wordsN false (s.take 0) = nw at *
          go_wp2_with fail
          refine (cA _ c0).mono ?_
          rintro e w1 ⟨rfl, rfl⟩
          go_wp2_with fail
          go_roundw
          case rel => exact ⟨1, q, by omega, by go_num, by rw [show (1 : Nat) = 0 + 1 from rfl, HS.out]; go_num, HW⟩
          case measure => simp [intOf]; omega
    · obtain rfl : k = s.length := by omega
      rw [List.take_length, HT.out] at hw1 ⊢
      clear cP
      go_wp2_with fail
      go_quiet ((go_at_call 263; exact Calls.quiet_of_same (cC _)))
      go_wp2_with fail
      go_ret3
      exact ⟨rfl, by rw [HN.out]; exact below_drewN hbl.out _⟩
end Go.Proofs.YtgbibgppjicbgaaGreatDoor
namespace Go.Proofs.YtgbibgppjicbgaaGreatDoor
open Go.RowKit
open Go.Lib (hid)
def FiltPost (W : World) (N B : Nat) (C : Option Addr) (c : Nat) (o : List UInt8) (st : Int) (t : List ND) (rd : Bool) (inn : List UInt8) (bad : Prop) (rest : List (List UInt8)) (F : List UInt8 → List UInt8) (e : Ending) (w' : World) : Prop :=
  Kept B W w' ∧ ((bad ∧ e = .panicked [faultU 2 0]) ∨ (¬ bad ∧ ∃ g caps, e = .returned (.func (.func g) #[] caps) ∧ (∀ args w, (callFunc g args).run Tryz.prog w = .ok (.enter g args) w) ∧ (∃ R' d', JobAt w' N B C c R' d' o st t rd rest inn) ∧
    ∀ V, Kept B w' V → ∀ s : List UInt8, s.length ≤ 137438953472 → Calls Tryz.prog g (#[encS s] ++ caps) V fun e v => e = .returned (encS (F s)) ∧ Below V.heap.size V v))
theorem box_kept {B b : Nat} {cs : Array Value} {T : TypeId} {W V : World} (h : W.heap[b]? = some (.cells cs T (0, 0))) (hb : b ≠ B) (k : Kept B W V) : V.heap[b]? = some (.cells cs T (0, 0)) := (k.block b (lt_of_block h) hb).trans h
section
variable {W : World} {N B : Nat} {C : Option Addr} {c : Nat} {R : Option Addr} {d : Nat} {o : List UInt8} {st : Int} {t : List ND} {rd : Bool} {l : List (List UInt8)} {inn : List UInt8}
theorem filt_cat (h : JobAt W N B C c R d o st t rd l inn) :
    Calls Tryz.prog 53 #[.pointer (some ⟨B, 0, none⟩), encS [99, 97, 116]] W fun e w' => FiltPost W N B C c o st t rd inn False l id e w' := by
  have H := hid h
  clear h
  have cF : ∀ (s : List UInt8) V, Calls Tryz.prog 127 (#[encS s] ++ #[]) V fun e v => e = .returned (encS (id s)) ∧ Below V.heap.size V v := fun s V => by
    show Calls _ _ #[encS s] _ _
    go_enter Tryz.func127, Tryz.ntmps127
    go_wp2_with fail
    go_ret
    exact ⟨rfl, Below.refl _ _⟩
  have HF := hid cF
  clear cF
  go_enter Tryz.func53, Tryz.ntmps53
  go_wp2_with fail
  go_ret
  exact ⟨Kept.refl _ _, .inr ⟨fun h => h, _, _, rfl, enters_of Tryz.func127 (by kernel_rfl) rfl, ⟨_, _, H.out⟩, fun V _ s _ => HF.out s V⟩⟩
set_option linter.unusedSimpArgs false in
set_option maxHeartbeats 1000000 in
theorem filt_head (h : JobAt W N B C c R d o st t rd l inn) (hz : sizeTs l ≤ 1099511627776) :
    Calls Tryz.prog 53 #[.pointer (some ⟨B, 0, none⟩), encS [104, 101, 97, 100]] W fun e w' => FiltPost W N B C c o st t rd inn ((linesA l).1 < 0 ∨ l = [[45, 110]]) (linesA l).2 (fun s => headL s (linesA l).1) e w' := by
  have cL := lines_any h hz
  have c1 := fun s n W hs n0 n1 => head_any s n W hs n0 n1
  generalize (linesA l).2 = r at *
  generalize ((linesA l).1 < 0 ∨ l = [[45, 110]]) = bad at *
  generalize (linesA l).1 = n at *
  clear h
  go_enter Tryz.func53, Tryz.ntmps53
  go_wp2_with fail
  refine cL.mono ?_
  rintro e w1 ⟨hk, ⟨hbad, rfl⟩ | ⟨hnb, h1, h2, rfl, R', d', hJ⟩⟩
  · go_wp2_with fail
    exact ⟨rfl, hk, .inl ⟨hbad, rfl⟩⟩
  · obtain ⟨V0, hV0⟩ : ∃ V, w1.alloc (.cells #[.int .i64 n] 3) = V := ⟨_, rfl⟩
    have hbx : V0.heap[w1.heap.size]? = some (.cells #[.int .i64 n] 3 (0, 0)) := by rw [← hV0]; exact heap_alloc_new _ _
    have hb0 : Below w1.heap.size w1 V0 := by rw [← hV0]; exact (Below.refl _ _).alloc (Nat.le_refl _) _
    have hlt : B < w1.heap.size := hJ.lt
    have HJ := hid (hJ.below hb0)
    have HK := hid (hk.trans (Kept.of_below hb0))
    have HF : Hid (∀ V, Kept B V0 V → ∀ s : List UInt8, s.length ≤ 137438953472 → Calls Tryz.prog 112 (#[encS s] ++ #[.pointer (some ⟨w1.heap.size, 0, none⟩)]) V fun e v => e = .returned (encS (headL s n)) ∧ Below V.heap.size V v) := hid fun V hk s hs => by
      have hc := cell_of_one (box_kept hbx (by omega) hk)
      have cH := c1 s n V (by omega) (by omega) (by omega)
      show Calls _ _ #[encS s, .pointer (some ⟨w1.heap.size, 0, none⟩)] _ _
      clear hbx hb0 hV0 hk HJ HK
      go_enter Tryz.func112, Tryz.ntmps112
      go_wp2_with fail
      refine cH.mono ?_
      rintro e w2 ⟨rfl, hb⟩
      go_wp2_with fail
      go_ret
      exact ⟨rfl, hb⟩
    clear hbx hb0 hk hJ cL
    go_wp2_with fail
    go_ret
    exact ⟨HK.out, .inr ⟨hnb, _, _, rfl, enters_of Tryz.func112 (by kernel_rfl) rfl, ⟨_, _, HJ.out⟩, HF.out⟩⟩
set_option linter.unusedSimpArgs false in
set_option maxHeartbeats 1000000 in
theorem filt_tail (h : JobAt W N B C c R d o st t rd l inn) (hz : sizeTs l ≤ 1099511627776) :
    Calls Tryz.prog 53 #[.pointer (some ⟨B, 0, none⟩), encS [116, 97, 105, 108]] W fun e w' => FiltPost W N B C c o st t rd inn ((linesA l).1 < 0 ∨ l = [[45, 110]]) (linesA l).2 (fun s => lastL3 s (linesA l).1) e w' := by
  have cL := lines_any h hz
  have c1 := fun s n W hs n0 n1 => tail_any s n W hs n0 n1
  generalize (linesA l).2 = r at *
  generalize ((linesA l).1 < 0 ∨ l = [[45, 110]]) = bad at *
  generalize (linesA l).1 = n at *
  clear h
  go_enter Tryz.func53, Tryz.ntmps53
  go_wp2_with fail
  refine cL.mono ?_
  rintro e w1 ⟨hk, ⟨hbad, rfl⟩ | ⟨hnb, h1, h2, rfl, R', d', hJ⟩⟩
  · go_wp2_with fail
    exact ⟨rfl, hk, .inl ⟨hbad, rfl⟩⟩
  · obtain ⟨V0, hV0⟩ : ∃ V, w1.alloc (.cells #[.int .i64 n] 3) = V := ⟨_, rfl⟩
    have hbx : V0.heap[w1.heap.size]? = some (.cells #[.int .i64 n] 3 (0, 0)) := by rw [← hV0]; exact heap_alloc_new _ _
    have hb0 : Below w1.heap.size w1 V0 := by rw [← hV0]; exact (Below.refl _ _).alloc (Nat.le_refl _) _
    have hlt : B < w1.heap.size := hJ.lt
    have HJ := hid (hJ.below hb0)
    have HK := hid (hk.trans (Kept.of_below hb0))
    have HF : Hid (∀ V, Kept B V0 V → ∀ s : List UInt8, s.length ≤ 137438953472 → Calls Tryz.prog 114 (#[encS s] ++ #[.pointer (some ⟨w1.heap.size, 0, none⟩)]) V fun e v => e = .returned (encS (lastL3 s n)) ∧ Below V.heap.size V v) := hid fun V hk s hs => by
      have hc := cell_of_one (box_kept hbx (by omega) hk)
      have cH := c1 s n V (by omega) (by omega) (by omega)
      show Calls _ _ #[encS s, .pointer (some ⟨w1.heap.size, 0, none⟩)] _ _
      clear hbx hb0 hV0 hk HJ HK
      go_enter Tryz.func114, Tryz.ntmps114
      go_wp2_with fail
      refine cH.mono ?_
      rintro e w2 ⟨rfl, hb⟩
      go_wp2_with fail
      go_ret
      exact ⟨rfl, hb⟩
    clear hbx hb0 hk hJ cL
    go_wp2_with fail
    go_ret
    exact ⟨HK.out, .inr ⟨hnb, _, _, rfl, enters_of Tryz.func114 (by kernel_rfl) rfl, ⟨_, _, HJ.out⟩, HF.out⟩⟩
def countL0 (o s : List UInt8) : List UInt8 := if o = [108] then printL (tensN s) else if o = [119] then printL (wordsN false s) else if o = [99] then printL (s.length) else printL (tensN s) ++ [32] ++ printL (wordsN false s) ++ [32] ++ printL (s.length)
theorem countL_eq (o s : List UInt8) : countL o s = countL0 o s ++ [10] := rfl
theorem tens_le (s : List UInt8) : tensN s ≤ s.length := List.count_le_length
set_option linter.unusedSimpArgs false in
set_option maxHeartbeats 4000000 in
theorem counts_any (s q : List UInt8) (w : World) (hs : s.length ≤ 137438953472) :
    Calls Tryz.prog 117 #[encS s, encS q] w fun e w' => e = .returned (encS (countL0 q s)) ∧ Below w.heap.size w w' := by
  have cC := count_any s w (by omega)
  have h1 := tens_le s
  have h2 := words_le s false
  have p1 := fun W => print_any (tensN s) (by omega) (by omega) W
  have p2 := fun W => print_any (wordsN false s) (by omega) (by omega) W
  have p3 := fun W => print_any (s.length) (by omega) (by omega) W
  have l1 := printL_len (n := tensN s) (by omega) (by omega)
  have l2 := printL_len (n := wordsN false s) (by omega) (by omega)
  have l3 := printL_len (n := (s.length : Int)) (by omega) (by omega)
  obtain ⟨V, hV⟩ : ∃ V, countL0 q s = V := ⟨_, rfl⟩
  rw [hV]
  unfold countL0 at hV
  generalize tensN s = a at *
  generalize wordsN false s = b at *
  obtain ⟨n, hn⟩ : ∃ n : Int, (s.length : Int) = n := ⟨_, rfl⟩
  rw [hn] at cC p3 l3 hV
  generalize printL a = A at *
  generalize printL b = D at *
  generalize printL n = E at *
  clear hn h1 h2
  by_cases q1 : q = [108]
  · subst q1
    rw [if_pos rfl] at hV
    subst hV
    go_enter Tryz.func117, Tryz.ntmps117
    go_wp2_with fail
    refine cC.mono ?_
    rintro e w1 ⟨rfl, hb1⟩
    go_wp2_with fail
    refine (p1 _).mono ?_
    rintro e w2 ⟨rfl, hb2⟩
    go_wp2_with fail
    go_ret
    exact ⟨rfl, hb1.trans (hb2.mono hb1.size)⟩
  rw [if_neg q1] at hV
  have e1 : (q == [108]) = false := by simpa using q1
  clear q1
  by_cases q2 : q = [119]
  · subst q2
    rw [if_pos rfl] at hV
    subst hV
    go_enter Tryz.func117, Tryz.ntmps117
    go_wp2_with fail
    refine cC.mono ?_
    rintro e w1 ⟨rfl, hb1⟩
    go_wp2_with fail
    refine (p2 _).mono ?_
    rintro e w2 ⟨rfl, hb2⟩
    go_wp2_with fail
    go_ret
    exact ⟨rfl, hb1.trans (hb2.mono hb1.size)⟩
  rw [if_neg q2] at hV
  have e2 : (q == [119]) = false := by simpa using q2
  clear q2
  by_cases q3 : q = [99]
  · subst q3
    rw [if_pos rfl] at hV
    subst hV
    go_enter Tryz.func117, Tryz.ntmps117
    go_wp2_with fail
    refine cC.mono ?_
    rintro e w1 ⟨rfl, hb1⟩
    go_wp2_with fail
    refine (p3 _).mono ?_
    rintro e w2 ⟨rfl, hb2⟩
    go_wp2_with fail
    go_ret
    exact ⟨rfl, hb1.trans (hb2.mono hb1.size)⟩
  rw [if_neg q3] at hV
  have e3 : (q == [99]) = false := by simpa using q3
  clear q3
  have HV := hid hV
  clear hV
  go_enter Tryz.func117, Tryz.ntmps117
  go_wp2_with fail
  refine cC.mono ?_
  rintro e w1 ⟨rfl, hb1⟩
  have HB1 := hid hb1
  go_wp2_with fail
  refine (p1 _).mono ?_
  rintro e w2 ⟨rfl, hb2⟩
  have HB2 := hid (HB1.out.trans (hb2.mono HB1.out.size))
  clear hb2 hb1 HB1
  go_wp2_with fail
  refine (p2 _).mono ?_
  rintro e w3 ⟨rfl, hb3⟩
  have HB3 := hid (HB2.out.trans (hb3.mono HB2.out.size))
  clear hb3 HB2
  go_wp2_with fail
  refine (p3 _).mono ?_
  rintro e w4 ⟨rfl, hb4⟩
  have HB4 := hid (HB3.out.trans (hb4.mono HB3.out.size))
  clear hb4 HB3
  go_wp2_with fail
  go_ret
  exact ⟨by rw [← HV.out]; rfl, HB4.out⟩
theorem count0_len (o s : List UInt8) (hs : s.length ≤ 137438953472) : (countL0 o s).length ≤ 100 := by
  have h1 := tens_le s
  have h2 := words_le s false
  have l1 := printL_len (n := tensN s) (by omega) (by omega)
  have l2 := printL_len (n := wordsN false s) (by omega) (by omega)
  have l3 := printL_len (n := (s.length : Int)) (by omega) (by omega)
  unfold countL0
  repeat' split
  all_goals (try simp only [List.length_append, List.length_cons, List.length_nil]); omega
set_option linter.unusedSimpArgs false in
set_option maxRecDepth 100000 in
set_option maxHeartbeats 1000000 in
theorem filt_wc (h : JobAt W N B C c R d o st t rd l inn) (hz : sizeTs l ≤ 1099511627776) :
    Calls Tryz.prog 53 #[.pointer (some ⟨B, 0, none⟩), encS [119, 99]] W fun e w' => FiltPost W N B C c o st t rd inn ((lettersL [108, 119, 99] [] l).ok = false ∨ 1 < (lettersL [108, 119, 99] [] l).out.length) (lettersL [108, 119, 99] [] l).rest (fun s => countL (lettersL [108, 119, 99] [] l).out s) e w' := by
  have cL := letters_any [108, 119, 99] (by decide) (by decide) h hz
  have hls := letters_size [108, 119, 99] l []
  generalize lettersL [108, 119, 99] [] l = q at *
  obtain ⟨qo, qr, qk⟩ := q
  simp only [List.length_nil, Nat.zero_add] at hls
  have hql : qo.length ≤ 1099511627776 := by omega
  unfold LettersPost at cL
  simp only at cL ⊢
  clear h hls
  go_enter Tryz.func53, Tryz.ntmps53
  go_wp2_with fail
  refine cL.mono ?_
  rintro e w1 (⟨rfl, rfl, hk⟩ | ⟨rfl, rfl, ⟨R', d', hJ⟩, hk⟩)
  · go_wp2_with fail
    exact ⟨rfl, hk, .inl ⟨by simp, rfl⟩⟩
  · obtain ⟨V0, hV0⟩ : ∃ V, w1.alloc (.cells #[encS qo] 9) = V := ⟨_, rfl⟩
    have hbx : V0.heap[w1.heap.size]? = some (.cells #[encS qo] 9 (0, 0)) := by rw [← hV0]; exact heap_alloc_new _ _
    have hb0 : Below w1.heap.size w1 V0 := by rw [← hV0]; exact (Below.refl _ _).alloc (Nat.le_refl _) _
    have hlt : B < w1.heap.size := hJ.lt
    have HJ := hid (hJ.below hb0)
    have HK := hid (hk.trans (Kept.of_below hb0))
    have hc0 := cell_of_one hbx
    have hqs : (⟨qo.toArray⟩ : ByteArray).size = qo.length := by simp [ByteArray.size]
    by_cases h1 : 1 < qo.length
    · have hi : decide ((qo.length : Int) ≤ 1) = false := decide_eq_false (by omega)
      clear hbx hb0 hk hJ cL
      go_wp2_with fail
      refine (must_false _).mono ?_
      rintro e w2 ⟨rfl, rfl⟩
      go_wp2_with fail
      exact ⟨rfl, HK.out, .inl ⟨by simp [h1], rfl⟩⟩
    · have hi : decide ((qo.length : Int) ≤ 1) = true := decide_eq_true (by omega)
      have HF : Hid (∀ V, Kept B V0 V → ∀ s : List UInt8, s.length ≤ 137438953472 → Calls Tryz.prog 116 (#[encS s] ++ #[.pointer (some ⟨w1.heap.size, 0, none⟩)]) V fun e v => e = .returned (encS (countL qo s)) ∧ Below V.heap.size V v) := hid fun V hk s hs => by
        have hc := cell_of_one (box_kept hbx (by omega) hk)
        have cH := counts_any s qo V hs
        have hvl := count0_len qo s hs
        rw [countL_eq]
        generalize countL0 qo s = v at *
        show Calls _ _ #[encS s, .pointer (some ⟨w1.heap.size, 0, none⟩)] _ _
        clear hbx hb0 hV0 hk HJ HK hc0
        go_enter Tryz.func116, Tryz.ntmps116
        go_wp2_with fail
        refine cH.mono ?_
        rintro e w2 ⟨rfl, hb⟩
        go_wp2_with fail
        go_ret
        exact ⟨rfl, hb⟩
      have HB := hid h1
      clear hbx hb0 hk hJ cL h1
      go_wp2_with fail
      refine (must_true _).mono ?_
      rintro e w2 ⟨rfl, rfl⟩
      go_wp2_with fail
      go_ret
      exact ⟨HK.out, .inr ⟨by rintro (h | h); cases h; exact HB.out h, _, _, rfl, enters_of Tryz.func116 (by kernel_rfl) rfl, ⟨_, _, HJ.out⟩, HF.out⟩⟩
end
end Go.Proofs.YtgbibgppjicbgaaGreatDoor
namespace Go.Proofs.YtgbibgppjicbgaaGreatDoor
open Go.RowKit
open Go.Lib (hid)
def RunJ (W : World) (N B : Nat) (t : List ND) (inn : List UInt8) (q : UQ) (e : Ending) (w' : World) : Prop :=
  Kept B W w' ∧ ((∃ st er, e = .panicked [faultU st er] ∧ q = ⟨[], st, t, false, er⟩) ∨ (e = .returned (.tuple #[]) ∧ q.err = 0 ∧ ∃ C c R d l, JobAt w' N B C c R d q.out q.st q.tree q.read l inn))
section
variable {W : World} {N B : Nat} {C : Option Addr} {c : Nat} {R : Option Addr} {d : Nat} {o : List UInt8} {st : Int} {t : List ND} {rd : Bool} {l : List (List UInt8)} {inn : List UInt8}
set_option linter.unusedSimpArgs false in
set_option maxRecDepth 100000 in
set_option maxHeartbeats 8000000 in
theorem run_filter (name : List UInt8) (hn : name = [99, 97, 116] ∨ name = [104, 101, 97, 100] ∨ name = [116, 97, 105, 108] ∨ name = [119, 99] ∨ name = [115, 111, 114, 116] ∨ name = [117, 110, 105, 113] ∨ name = [99, 117, 116] ∨ name = [114, 101, 118])
    (hok : OkT t) (hz : SizeT t) (bad : Prop) (rest : List (List UInt8)) (F : List UInt8 → List UInt8) (hl : sizeTs rest ≤ 1100000) (hi : inn.length ≤ 1100000)
    (cF : Calls Tryz.prog 53 #[.pointer (some ⟨B, 0, none⟩), encS name] W fun e w' => FiltPost W N B C c [] 0 t false inn bad rest F e w') (q : UQ) (h1 : bad → q = usageU t) (h2 : ¬ bad → (lettersL [] [] rest).ok = false → q = usageU t)
    (h3 : ¬ bad → (lettersL [] [] rest).ok = true → q = ofT t (textsU t inn (lettersL [] [] rest).rest) (F (textsU t inn (lettersL [] [] rest).rest).out)) :
    Calls Tryz.prog 23 #[.pointer (some ⟨B, 0, none⟩), encS name] W fun e w' => RunJ W N B t inn q e w' := by
  have hls := letters_size [] rest []
  have cL := fun V R d (h : JobAt V N B C c R d [] 0 t false rest inn) => letters_any [] (by decide) (by decide) h (by omega)
  generalize lettersL [] [] rest = q0 at *
  obtain ⟨qo, qr, qk⟩ := q0
  simp only [List.length_nil, Nat.zero_add] at hls
  have hqr : sizeTs qr ≤ 1100000 := by omega
  have hto := texts_out t hok inn qr
  have hqn := sizeTs_len qr
  have cT := fun V R d (h : JobAt V N B C c R d [] 0 t false qr inn) => texts_any h hok hz hqr hi
  unfold LettersPost at cL
  simp only at cL h2 h3
  generalize textsU t inn qr = tq at *
  obtain ⟨tou, trd, tst⟩ := tq
  simp only at hto cT h3
  have hto2 : tou.length ≤ 137438953472 := by omega
  have HC := hid (And.intro cL cT)
  have H1 := hid h1
  have H2 := hid h2
  have H3 := hid h3
  clear cL cT hls h1 h2 h3
  rcases hn with rfl | rfl | rfl | rfl | rfl | rfl | rfl | rfl
  all_goals
    go_enter Tryz.func23, Tryz.ntmps23
    go_wp2_with fail
    refine cF.mono ?_
    rintro e w1 ⟨hk1, ⟨hbad, rfl⟩ | ⟨hnb, g, caps, rfl, eg, ⟨R1, d1, hJ1⟩, hFn⟩⟩
    · go_wp2_with fail
      exact ⟨rfl, hk1, .inl ⟨2, 0, rfl, H1.out hbad⟩⟩
    · have cL := HC.out.1 w1 R1 d1 hJ1
      have HK1 := hid hk1
      have HF := hid hFn
      clear cF hk1 hFn hJ1
      go_wp2_with fail
      refine cL.mono ?_
      rintro e w2 (⟨rfl, rfl, hk2⟩ | ⟨rfl, rfl, ⟨R2, d2, hJ2⟩, hk2⟩)
      · go_wp2_with fail
        exact ⟨rfl, HK1.out.trans hk2, .inl ⟨2, 0, rfl, H2.out hnb (by trivial)⟩⟩
      · have cT := HC.out.2 w2 R2 d2 hJ2
        have HK2 := hid hk2
        clear cL hk2 hJ2
        go_wp2_with fail
        refine cT.mono ?_
        rintro e w3 ⟨rfl, hJ3, hk3⟩
        have cFn := HF.out w3 (HK2.out.trans hk3) tou hto2
        have HK3 := hid (HK1.out.trans (HK2.out.trans hk3))
        have HJ3 := hid hJ3
        clear cT hk3 hJ3 HF HK2 HK1
        go_wp2_with (go_at_fn g; refine cFn.mono ?_; rintro e w4 ⟨rfl, hb4⟩; have HJ4 := hid (HJ3.out.below hb4); have HK4 := hid (HK3.out.trans (Kept.of_below hb4)); have x0 := HJ4.out.cells.1; have f0 := HJ4.out.free 0; clear hb4)
        go_end0
        rw [H3.out hnb (by trivial)]
        exact ⟨HK4.out.setCell _ _, .inr ⟨rfl, rfl, _, _, _, _, _, HJ4.out.set0 _⟩⟩
end
end Go.Proofs.YtgbibgppjicbgaaGreatDoor

namespace Go.Proofs.YtgbibgppjicbgaaGreatDoor
open Go.RowKit
theorem s2 : (0 : Int) ≤ 2 ∧ (2 : Int) ≤ 2 := by decide
theorem s0 : (0 : Int) ≤ 0 ∧ (0 : Int) ≤ 2 := by decide
theorem s1 : (0 : Int) ≤ 1 ∧ (1 : Int) ≤ 2 := by decide
structure FineU (t : List ND) (f : List UInt8 → UQ) : Prop where
  tree : ∀ inn, OkT (f inn).tree
  err : ∀ inn, (f inn).err = 0 ∨ ((f inn).err = 17 ∧ (f inn).out = [])
  read : ∀ inn, (f inn).read = false → ∀ other, f other = f inn
  st : ∀ inn, (f inn).read = false → 0 ≤ (f inn).st ∧ (f inn).st ≤ 2
end Go.Proofs.YtgbibgppjicbgaaGreatDoor

namespace Go.Proofs.YtgbibgppjicbgaaGreatDoor
open Go.RowKit
def SizeB (b : Nat) (t : List ND) : Prop := ∀ n ∈ t, n.p.length ≤ b ∧ n.x.length ≤ b
theorem nil_size (b : Nat) : SizeB b [] := fun _ h => by cases h
end Go.Proofs.YtgbibgppjicbgaaGreatDoor

namespace Go.Proofs.YtgbibgppjicbgaaGreatDoor
open Go.RowKit
open Go.Lib (hid)
def runV (q : UQ) (C : Option Addr) (c : Nat) : Value := .agg #[encS q.out, encS [], .int .i64 q.st, .slice C q.tree.length c, .bool q.read]
def RunTells (w : World) (q : UQ) (e : Ending) (w' : World) : Prop := ∃ C c, e = .returned (.tuple #[runV q C c, .int .i64 q.err]) ∧ NodesP w' (fun g => w.heap.size ≤ g) C q.tree ∧ q.tree.length ≤ c ∧ Below w.heap.size w w'
def RunOk (w0 : World) (S : List UInt8 → Prop) (b : Nat) : Prop := ∀ (name : List UInt8) (args : List (List UInt8)) (inn : List UInt8) (t : List ND) (A : Option Addr) (c : Nat) (B : Option Addr) (d : Nat) (W : World), S name → Below w0.heap.size w0 W → name.length ≤ b → TextsP W (fun _ => True) A args → args.length ≤ c → sizeTs args ≤ b → inn.length ≤ b → NodesP W (fun _ => True) B t → t.length ≤ b → t.length ≤ d → SizeB b t →
  Calls Tryz.prog 9 #[encS name, .slice A args.length c, encS inn, .slice B t.length d] W fun e w' => RunTells W (runU name args inn t) e w'
def DoneB (W : World) (b : Nat) (q : UQ) (C : Option Addr) (c : Nat) : Prop := W.heap[b]? = some (.cells #[encS q.out, encS [], .int .i64 q.st, .slice C q.tree.length c, .bool q.read] 26 (0, 0))
theorem DoneB.cells {W : World} {b : Nat} {q : UQ} {C : Option Addr} {c : Nat} (h : DoneB W b q C c) :
    W.cell? ⟨b, 0, none⟩ = some (encS q.out) ∧ W.cell? ⟨b, 1, none⟩ = some (encS []) ∧ W.cell? ⟨b, 2, none⟩ = some (.int .i64 q.st) ∧ W.cell? ⟨b, 3, none⟩ = some (.slice C q.tree.length c) ∧ W.cell? ⟨b, 4, none⟩ = some (.bool q.read) := by
  unfold DoneB at h
  simp [World.cell?, h]
theorem num12_any (n : Int) (w : World) : Calls Tryz.prog 10 #[.int .i64 n] w fun e w' => e = .returned (.int .i64 n) ∧ w' = w := by
  go_enter Tryz.func10, Tryz.ntmps10
  go_wp2
  go_ret
  exact ⟨rfl, rfl⟩
theorem okT_none : OkT [] := ⟨Nat.zero_le _, fun _ h => absurd h (Nat.not_lt_zero _)⟩
theorem check_none : checkL [] = 0 := by unfold checkL; rw [if_pos okT_none]
theorem print_one : printL 1 = [49] := by
  unfold printL
  rw [if_neg (by decide)]
  show decD 1 = [49]
  rw [decD]
  rfl
theorem alive_run : runU [119, 99] [[45, 108]] [97, 10] [] = ⟨[49, 10], 0, [], true, 0⟩ := by
  have hd : dispU [119, 99] [[45, 108]] [97, 10] [] = ⟨[49, 10], 0, [], true, 0⟩ := by
    unfold dispU
    rw [if_neg (by decide), if_neg (by decide), if_neg (by decide), if_pos rfl]
    unfold countU
    rw [show lettersL [108, 119, 99] [] [[45, 108]] = ⟨[108], [], true⟩ from rfl, if_neg (by decide)]
    unfold textsU
    rw [if_pos rfl]
    unfold ofT countL
    rw [if_pos rfl, show (tensN [97, 10] : Int) = 1 by decide, print_one]
    rfl
  unfold runU
  rw [if_neg (by decide), check_none, if_neg (by decide), hd, if_neg (by decide)]
set_option linter.unusedSimpArgs false in
set_option maxRecDepth 100000 in
set_option maxHeartbeats 2000000 in
theorem alive12_any {b : Nat} {S : List UInt8 → Prop} {w : World} (hR : RunOk w S b) (hS : S [119, 99]) (hb : 10 ≤ b) : Calls Tryz.prog 8 #[] w fun e w' => e = .returned (.bool true) ∧ Below w.heap.size w w' := by
  have cR := fun A (W : World) hB h => hR [119, 99] [[45, 108]] [97, 10] [] A 1 none 0 W hS hB (by simp; omega) h (Nat.le_refl _) (by simp [sizeTs]; omega) (by simp; omega) (fun _ h => absurd h (Nat.not_lt_zero _)) (by simp) (Nat.le_refl _) (nil_size b)
  rw [alive_run] at cR
  go_enter Tryz.func8, Tryz.ntmps8
  go_wp2_with fail
  obtain ⟨W1, hW1⟩ : ∃ W1, w.alloc (.cells #[encS [45, 108]] 9) = W1 := ⟨_, rfl⟩
  have hb1 : Below w.heap.size w W1 := by rw [← hW1]; exact (Below.refl _ _).alloc (Nat.le_refl _) _
  have hk1 : W1.heap[w.heap.size]? = some (.cells #[encS [45, 108]] 9 (0, 0)) := by rw [← hW1]; exact heap_alloc_new w _
  have cR := cR (some ⟨w.heap.size, 0, none⟩) W1 hb1 (fun k hk => by
    obtain rfl : k = 0 := by simp at hk; exact hk
    exact ⟨w.heap.size, 0, rfl, trivial, by simp [World.cell?, hk1]⟩)
  change Calls _ _ _ (w.alloc (.cells #[encS [45, 108]] 9)) _
  rw [hW1]
  refine cR.mono ?_
  rintro e w2 ⟨C, c, rfl, -, -, hb2⟩
  have HB2 := hid (hb1.trans (hb2.mono hb1.size))
  unfold runV
  clear hb1 hb2 hk1 hW1 cR
  go_wp2_with fail
  refine (num12_any _ _).mono ?_
  rintro e w3 ⟨rfl, rfl⟩
  go_wp2_with fail
  go_ret
  exact ⟨rfl, HB2.out.alloc HB2.out.size _⟩
end Go.Proofs.YtgbibgppjicbgaaGreatDoor
namespace Go.Proofs.YtgbibgppjicbgaaGreatDoor
open Go.RowKit
open Go.Lib (hid)
def Tab (w : World) : Prop := w.cell? ⟨7, 7, none⟩ = some (.int .u8 3) ∧ w.cell? ⟨7, 15, none⟩ = some (.int .u8 4)
theorem Tab.below {w w' : World} (h : Tab w) (hb : Below w.heap.size w w') : Tab w' := ⟨cell_below hb h.1, cell_below hb h.2⟩
theorem Tab.drewN {w : World} (h : Tab w) (n : Nat) : Tab (w.drewN n) := h
theorem Tab.drew {w : World} (h : Tab w) : Tab w.drew := h
def SpT (w : World) : Prop := ∀ c : Nat, c < 256 → w.cell? ⟨0, c, none⟩ = some (.int .u8 (if Lib.isSp (UInt8.ofNat c) then 1 else 0))
theorem SpT.below {w w' : World} (h : SpT w) (hb : Below w.heap.size w w') : SpT w' := fun c hc => cell_below hb (h c hc)
def LaidU (w : World) : Prop := SpT w ∧ Tab w
theorem LaidU.below {w w' : World} (h : LaidU w) (hb : Below w.heap.size w w') : LaidU w' := ⟨h.1.below hb, h.2.below hb⟩
end Go.Proofs.YtgbibgppjicbgaaGreatDoor
namespace Go.Proofs.YtgbibgppjicbgaaGreatDoor
open Go.RowKit
open Go.Lib (hid)
def namesC : List UInt8 := [58, 32, 116, 114, 117, 101, 32, 102, 97, 108, 115, 101, 32, 101, 99, 104, 111, 32, 112, 114, 105, 110, 116, 102, 32, 116, 101, 115, 116, 32, 91, 32, 99, 97, 116, 32, 104, 101, 97, 100, 32, 116, 97, 105, 108, 32, 119, 99, 32, 115, 111, 114, 116, 32, 116, 114, 32, 117, 110, 105, 113, 32, 99, 117, 116, 32, 114, 101, 118, 32, 114, 109, 32, 109, 107, 100, 105, 114, 32, 116, 111, 117, 99, 104, 32, 115, 101, 113, 32, 98, 97, 115, 101, 110, 97, 109, 101, 32, 100, 105, 114, 110, 97, 109, 101, 32, 101, 120, 112, 114]
theorem names_fields : Lib.fields namesC = namesU := by decide +kernel
theorem names_ascii : namesC.all (fun b => decide (b.toNat < 128)) = true := by decide +kernel
theorem fields_names (w : World) (hT : SpT w) : Calls Tryz.prog 30 #[encS namesC] w fun e w' => e = .returned (.slice (some ⟨w.heap.size, 0, none⟩) 23 23) ∧ w' = w.alloc (.cells (namesU.map encS).toArray 9) := by
  have h := Any.strings_Fields_core Tryz.lays157 (by kernel_rfl) ⟨namesC.toArray⟩ w (by decide +kernel) (fun j b hj => by
    have : (⟨namesC.toArray⟩ : ByteArray).data.toList = namesC := by simp
    rw [this] at hj
    have hm := List.all_eq_true.1 names_ascii b (List.mem_of_getElem? hj)
    simpa using hm) hT
  have e : (⟨namesC.toArray⟩ : ByteArray).data.toList = namesC := by simp
  rw [e, names_fields] at h
  exact h
theorem names_any (w : World) (hT : SpT w) : Calls Tryz.prog 15 #[] w fun e w' => ∃ g, e = .returned (.slice (some ⟨g, 0, none⟩) 23 23) ∧ TextsP w' (fun _ => True) (some ⟨g, 0, none⟩) namesU ∧ Below w.heap.size w w' := by
  have cC := clone_any namesC (by decide +kernel) w
  have cF := fun W (hb : Below w.heap.size w W) => fields_names W (hT.below hb)
  unfold namesC at cC cF
  clear hT
  go_enter Tryz.func15, Tryz.ntmps15
  go_wp2_with fail
  refine cC.mono ?_
  rintro e w1 ⟨rfl, hb1⟩
  have cF := cF w1 hb1
  clear cC
  go_wp2_with fail
  refine cF.mono ?_
  rintro e w2 ⟨rfl, h2⟩
  have hk : w2.heap[w1.heap.size]? = some (.cells (namesU.map encS).toArray 9 (0, 0)) := by rw [h2]; exact heap_alloc_new _ _
  have HB := hid (show Below w.heap.size w w2 from by rw [h2]; exact hb1.alloc hb1.size _)
  have HT := hid (show TextsP w2 (fun _ => True) (some ⟨w1.heap.size, 0, none⟩) namesU from fun k hk2 => ⟨_, 0, rfl, trivial, by
    rw [Nat.zero_add]
    refine (Lib.cell_of_heap hk k).trans ?_
    simp [hk2]⟩)
  clear h2 hk cF
  go_wp2_with fail
  go_ret
  exact ⟨_, rfl, HT.out, HB.out⟩
theorem contains_names (s : List UInt8) : Lib.containsS ((namesU.map fun l => (⟨l.toArray⟩ : ByteArray)).take 23) ⟨s.toArray⟩ = namesU.contains s := by
  rw [Bool.eq_iff_iff, Lib.containsS_iff, List.contains_iff_mem, List.take_of_length_le (by decide)]
  constructor
  · intro h
    obtain ⟨x, hx, e⟩ := List.mem_map.1 h
    have : x = s := by simpa using e
    rw [← this]; exact hx
  · intro h
    exact List.mem_map.2 ⟨s, h, rfl⟩
set_option maxRecDepth 100000 in
theorem known_any (s : List UInt8) (w : World) (hT : SpT w) : Calls Tryz.prog 16 #[encS s] w fun e w' => e = .returned (.bool (namesU.contains s)) ∧ Below w.heap.size w w' := by
  have cN := names_any w hT
  have cK := fun g W (h : TextsP W (fun _ => True) (some ⟨g, 0, none⟩) namesU) => Tryz.slices_Contains_string g 0 23 23 (namesU.map fun l => (⟨l.toArray⟩ : ByteArray)) ⟨s.toArray⟩ W (by decide) (by decide) (fun j hj => by
    rw [List.length_map] at hj
    obtain ⟨g2, o2, e, -, hc⟩ := h j hj
    cases e
    rw [hc, List.getD_eq_getElem?_getD, List.getElem?_map, List.getElem?_eq_getElem hj]
    rfl)
  simp only [contains_names] at cK
  generalize namesU.contains s = q at *
  clear hT
  go_enter Tryz.func16, Tryz.ntmps16
  go_wp2_with fail
  refine cN.mono ?_
  rintro e w1 ⟨g, rfl, hT, hb⟩
  have cK := cK g w1 hT
  have HB := hid hb
  clear cN hT hb
  go_wp2_with fail
  refine cK.mono ?_
  rintro e w2 ⟨rfl, rfl⟩
  go_wp2_with fail
  go_ret
  exact ⟨rfl, HB.out⟩
end Go.Proofs.YtgbibgppjicbgaaGreatDoor
namespace Go.Proofs.YtgbibgppjicbgaaGreatDoor
open Go.RowKit
open Go.Lib (hid)
abbrev W3U (w : World) (A : Option Addr) (n c : Nat) : World := ((w.alloc (.cells #[.slice A n c] 23)).alloc (.cells #[.string ⟨#[]⟩, .string ⟨#[]⟩, .int .i64 0, .slice none 0 0, .bool false] 26)).alloc (.cells #[.int .i64 0] 27)
theorem w3u_boxes (w : World) (A : Option Addr) (n c : Nat) {W : World} (h : W3U w A n c = W) : RB w.heap.size A n c (.string ⟨#[]⟩) (.string ⟨#[]⟩) (.int .i64 0) (.slice none 0 0) (.bool false) 0 W ∧ Below w.heap.size w W ∧ W.heap.size = w.heap.size + 3 := by
  subst h
  have h1 := heap_alloc_new w (.cells #[.slice A n c] 23)
  have h2 := heap_alloc_new (w.alloc (.cells #[.slice A n c] 23)) (.cells #[.string ⟨#[]⟩, .string ⟨#[]⟩, .int .i64 0, .slice none 0 0, .bool false] 26)
  have h3 := heap_alloc_new ((w.alloc (.cells #[.slice A n c] 23)).alloc (.cells #[.string ⟨#[]⟩, .string ⟨#[]⟩, .int .i64 0, .slice none 0 0, .bool false] 26)) (.cells #[.int .i64 0] 27)
  simp only [World.size_alloc] at h2 h3
  refine ⟨⟨?_, ?_, h3⟩, (((Below.refl _ w).alloc (Nat.le_refl _) _).alloc (by simp) _).alloc (by simp; omega) _, by simp⟩
  · exact (Below.heap_alloc _ _ _ (by simp; omega)).trans ((Below.heap_alloc _ _ _ (by simp)).trans h1)
  · exact (Below.heap_alloc _ _ _ (by simp)).trans h2
set_option linter.unusedSimpArgs false in
set_option maxRecDepth 100000 in
set_option maxHeartbeats 8000000 in
theorem run_any (name : List UInt8) (args : List (List UInt8)) (inn : List UInt8) (t : List ND) (A : Option Addr) (c : Nat) (B : Option Addr) (d : Nat) (w : World) (hT : SpT w)
    (hA : TextsP w (fun _ => True) A args) (hc : args.length ≤ c) (hN : NodesP w (fun _ => True) B t) (hl : t.length ≤ 1099511627776) (hd : t.length ≤ d) (hz : SizeT t)
    (hJ : OkT t → name ∈ namesU → ∀ V J C cc R dd, JobAt V (w.heap.size + 3) J C cc R dd [] 0 t false args inn → Below w.heap.size w V → Calls Tryz.prog 23 #[.pointer (some ⟨J, 0, none⟩), encS name] V fun e w' => RunJ V (w.heap.size + 3) J t inn (dispU name args inn t) e w') :
    Calls Tryz.prog 9 #[encS name, .slice A args.length c, encS inn, .slice B t.length d] w fun e w' => RunTells w (runU name args inn t) e w' := by
  obtain ⟨W, hW⟩ : ∃ W, W3U w B t.length d = W := ⟨_, rfl⟩
  obtain ⟨hR, hb, hs⟩ := w3u_boxes w B t.length d hW
  have hmf : ∀ (fn : Fn) (first cap : Array Value) (w : World), (Instr.makeFunc fn first cap).run Tryz.prog w = .ok (.func fn first cap) w := fun _ _ _ _ => rfl
  have cK := known_any name W (hT.below hb)
  have hq : (name ∉ namesU ∧ runU name args inn t = ⟨[], 0, [], false, 31⟩) ∨ (name ∈ namesU ∧ checkL t ≠ 0 ∧ runU name args inn t = ⟨[], 0, [], false, checkL t⟩) ∨ (name ∈ namesU ∧ OkT t ∧ runU name args inn t = if 65536 < (dispU name args inn t).out.length then ⟨[], 1, t, false, 17⟩ else dispU name args inn t) := by
    unfold runU
    by_cases h1 : name ∈ namesU
    · rw [if_neg (fun h => h h1)]
      by_cases h2 : checkL t = 0
      · refine .inr (.inr ⟨h1, ?_, by rw [if_neg (fun h => h h2)]⟩)
        unfold checkL at h2
        by_cases h : OkT t
        · exact h
        · rw [if_neg h] at h2; exact absurd h2 (by decide)
      · exact .inr (.inl ⟨h1, h2, by rw [if_pos h2]⟩)
    · exact .inl ⟨h1, by rw [if_pos h1]⟩
  obtain ⟨N, hNe⟩ : ∃ N, w.heap.size = N := ⟨_, rfl⟩
  rw [hNe] at hR hb hs hJ
  unfold RunTells
  rw [hNe]
  dsimp only [W3U] at hW
  rcases hq with ⟨hn, hq⟩ | ⟨hn, hck, hq⟩ | ⟨hn, hok, hq⟩
  · rw [show namesU.contains name = false by simpa using hn] at cK
    have HQ := hid hq
    generalize runU name args inn t = q at *
    clear hJ hq hn hN hA
    go_enter_defers Tryz.func9, Tryz.ntmps9
    go_wp2_with fail
    refine cK.mono ?_
    rintro e w1 ⟨rfl, hb1⟩
    have hR1 := hR.below hb1 (by omega)
    have hB1 := hb.trans (hb1.mono (by omega))
    obtain ⟨-, x0, x1, x2, x3, x4, x5, f0, f1, f2, f3, f4, f5⟩ := hR1.cells
    have HR1 := hid hR1
    have HB1 := hid hB1
    clear cK hb1 hR1 hB1 hW hR hb
    go_wp2_with fail
    clear x0 x1 x2 x3 x4 x5 f0 f1 f2 f3 f4 f5
    have hst := HR1.out.stored (.string ⟨#[]⟩) (.string ⟨#[]⟩) (.int .i64 0) (.slice none 0 0) (.bool false) 31
    have hbb := below_storedU HB1.out (Nat.le_succ _) (.string ⟨#[]⟩) (.string ⟨#[]⟩) (.int .i64 0) (.slice none 0 0) (.bool false) 31
    rw [show N + 1 + 1 = N + 2 by omega]
    unfold storedU stored5 at hst hbb
    generalize (((((w1.setCell ⟨N + 1, 0, none⟩ (.string ⟨#[]⟩)).setCell ⟨N + 1, 1, none⟩ (.string ⟨#[]⟩)).setCell ⟨N + 1, 2, none⟩ (.int .i64 0)).setCell ⟨N + 1, 3, none⟩ (.slice none 0 0)).setCell ⟨N + 1, 4, none⟩ (.bool false)).setCell ⟨N + 2, 0, none⟩ (.int .i64 31) = w5 at *
    obtain ⟨-, l0, l1, l2, l3, l4, l5, -⟩ := hst.cells
    have HB5 := hid hbb
    clear hst hbb HR1 HB1
    simp [bodyPostD, Leaves, results, Tryz.results9, go_sem, l0, l1, l2, l3, l4, l5]
    obtain rfl := HQ.out
    exact ⟨none, 0, ⟨rfl, rfl⟩, fun k hk => absurd hk (Nat.not_lt_zero _), Nat.zero_le _, HB5.out⟩
  · rw [show namesU.contains name = true by simpa using hn] at cK
    have HQ := hid hq
    have cC := fun V (hb : Below w.heap.size w V) => tCheck_any B d t V (hN.below hb) hl hz hd
    obtain ⟨m, hm⟩ : ∃ m, checkL t = m := ⟨_, rfl⟩
    rw [hm] at hck HQ
    simp only [hm] at cC
    have hmne : (m != 0) = true := by simpa using hck
    have hmne2 : (m == 0) = false := by simpa using hck
    generalize runU name args inn t = q at *
    have y0 := hR.cells.1
    clear hJ hq hn hN hA hm hck
    go_enter_defers Tryz.func9, Tryz.ntmps9
    go_wp2_with fail
    refine cK.mono ?_
    rintro e w1 ⟨rfl, hb1⟩
    have hR1 := hR.below hb1 (by omega)
    have hB1 := hb.trans (hb1.mono (by omega))
    have cC := cC w1 (hNe ▸ hB1)
    have HRR := hid hR1
    have HBB := hid hB1
    have y0 := hR1.cells.1
    clear cK hb1 hR hb hW hR1 hB1
    go_wp2_with fail
    refine cC.mono ?_
    rintro e w2 ⟨rfl, hb2⟩
    have hR2 := HRR.out.below hb2 (by have := HRR.out.lt; omega)
    have HB1 := hid (HBB.out.trans (hb2.mono (by have := HRR.out.lt; omega)))
    have HR1 := hid hR2
    obtain ⟨-, x0, x1, x2, x3, x4, x5, f0, f1, f2, f3, f4, f5⟩ := hR2.cells
    clear cC hb2 hR2 HRR HBB y0
    go_wp2_with fail
    clear x0 x1 x2 x3 x4 x5 f0 f1 f2 f3 f4 f5
    have hst := HR1.out.stored (.string ⟨#[]⟩) (.string ⟨#[]⟩) (.int .i64 0) (.slice none 0 0) (.bool false) m
    have hbb := below_storedU HB1.out (Nat.le_succ _) (.string ⟨#[]⟩) (.string ⟨#[]⟩) (.int .i64 0) (.slice none 0 0) (.bool false) m
    rw [show N + 1 + 1 = N + 2 by omega]
    unfold storedU stored5 at hst hbb
    generalize (((((w2.setCell ⟨N + 1, 0, none⟩ (.string ⟨#[]⟩)).setCell ⟨N + 1, 1, none⟩ (.string ⟨#[]⟩)).setCell ⟨N + 1, 2, none⟩ (.int .i64 0)).setCell ⟨N + 1, 3, none⟩ (.slice none 0 0)).setCell ⟨N + 1, 4, none⟩ (.bool false)).setCell ⟨N + 2, 0, none⟩ (.int .i64 m) = w5 at *
    obtain ⟨-, l0, l1, l2, l3, l4, l5, -⟩ := hst.cells
    have HB5 := hid hbb
    clear hst hbb HR1 HB1
    simp [bodyPostD, Leaves, results, Tryz.results9, go_sem, l0, l1, l2, l3, l4, l5]
    obtain rfl := HQ.out
    exact ⟨none, 0, ⟨rfl, rfl⟩, fun k hk => absurd hk (Nat.not_lt_zero _), Nat.zero_le _, HB5.out⟩
  · rw [show namesU.contains name = true by simpa using hn] at cK
    have cC := fun V (hb : Below w.heap.size w V) => tCheck_any B d t V (hN.below hb) hl hz hd
    rw [checkL_ok hok] at cC
    have cU := fun V (h : NodesP V (fun _ => True) B t) => ucopied_any B d t V h hl hz
    have cJ := hJ hok hn
    have hAt : TextsP w (fun g => g < N) A args := fun k hk => by
      obtain ⟨g, o, e, -, h⟩ := hA k hk
      exact ⟨g, o, e, by have := World.block_lt_of_cell? _ _ h; rw [hNe] at this; exact this, h⟩
    have HNB := hid (show ∀ V, Below N w V → NodesP V (fun _ => True) B t from fun V hb => hN.below (hNe ▸ hb))
    have HQ := hid hq
    have HAt := hid hAt
    generalize runU name args inn t = q at *
    generalize dispU name args inn t = qd at *
    have y0 := hR.cells.1
    clear hJ hq hn hN hA hAt
    go_enter_defers Tryz.func9, Tryz.ntmps9
    go_wp2_with fail
    refine cK.mono ?_
    rintro e w1 ⟨rfl, hb1⟩
    have hR1 := hR.below hb1 (by omega)
    have hB1 := hb.trans (hb1.mono (by omega))
    have cC := cC w1 (hNe ▸ hB1)
    have HRR := hid hR1
    have HBB := hid hB1
    have y0 := hR1.cells.1
    clear cK hb1 hR hb hW hR1 hB1
    go_wp2_with fail
    refine cC.mono ?_
    rintro e w2 ⟨rfl, hb2⟩
    have hR2 := HRR.out.below hb2 (by have := HRR.out.lt; omega)
    have hB2 := HBB.out.trans (hb2.mono (by have := HRR.out.lt; omega))
    have cU := cU w2 (HNB.out w2 hB2)
    have HR2 := hid hR2
    have HB2 := hid hB2
    have y0 := hR2.cells.1
    clear cC hb2 hR2 HRR HBB hB2
    go_wp2_with fail
    refine cU.mono ?_
    rintro e w3 ⟨C, c', rfl, hO3, hb3⟩
    have hl2 : N + 2 < w2.heap.size := HR2.out.lt
    have hR3 := HR2.out.below hb3 hl2
    have hB3 := HB2.out.trans (hb3.mono (by omega))
    obtain ⟨V, hV⟩ : ∃ V, w3.alloc (.cells #[.string ⟨#[]⟩, .string ⟨#[]⟩, .int .i64 0, .slice C t.length c', .bool false, .slice A args.length c, encS inn] 53) = V := ⟨_, rfl⟩
    have hbV : Below w3.heap.size w3 V := by rw [← hV]; exact (Below.refl _ _).alloc (Nat.le_refl _) _
    have hkV : V.heap[w3.heap.size]? = some (.cells #[.string ⟨#[]⟩, .string ⟨#[]⟩, .int .i64 0, .slice C t.length c', .bool false, .slice A args.length c, encS inn] 53 (0, 0)) := by rw [← hV]; exact heap_alloc_new _ _
    have hl3 : N + 2 < w3.heap.size := hR3.lt
    have hJV : JobAt V (N + 3) w3.heap.size C c' A c [] 0 t false args inn := by
      refine ⟨hkV, ?_, hO3.cap, ?_, hc, by omega⟩
      · refine hO3.nodes.frame fun g hg hp => ⟨⟨?_, by omega⟩, hbV.block g hg⟩
        have hp : w2.heap.size ≤ g := hp
        omega
      · exact HAt.out.frame fun g hg hp => ⟨by have hp : g < N := hp; omega, (hbV.block g (by have := hB3.size; omega)).trans (hB3.block g hp)⟩
    have hBV := hB3.trans (hbV.mono (by omega))
    have cJ := cJ V _ _ _ _ _ hJV (hNe ▸ hBV)
    have HRV := hid (hR3.below hbV hl3)
    have HBV := hid hBV
    obtain ⟨J, hJe⟩ : ∃ J, w3.heap.size = J := ⟨_, rfl⟩
    rw [hJe] at cJ hl3
    clear cU hO3 hb3 hR3 hB3 hbV hkV hJV hBV HR2 HB2 HAt y0
    go_wp2_with fail
    refine cJ.mono ?_
    rintro e w4 ⟨hk4, ⟨st, er, rfl, rfl⟩ | ⟨rfl, he0, C4, c4, R4, d4, l4, hJ4⟩⟩
    · have hR4 := HRV.out.kept hk4 hl3
      have hB4 : Below N w w4 := HBV.out.trans (hk4.below (by have := HBV.out.size; omega) (by omega))
      have HQ2 : q = ⟨[], st, t, false, er⟩ := HQ.out.trans (if_neg (by simp))
      clear cJ hk4 HRV HBV
      go_wp2_with fail
      rw [show N + 1 + 1 = N + 2 by omega]
      have hT4 : NodesP w4 (fun _ => True) B t := HNB.out w4 hB4
      refine leaves_cons (f := 21) (args := #[.pointer (some ⟨N, 0, none⟩), .pointer (some ⟨N + 1, 0, none⟩), .pointer (some ⟨N + 2, 0, none⟩)]) (by simp) (by simp [go_sem]) ?_
      refine (runPanic N B d t _ _ _ _ _ _ st er [] _ hR4 hT4 hl hz).mono ?_
      rintro e' u' w5 ⟨rfl, rfl, C5, c5, hR5, hN5, hc5, hb5⟩
      obtain ⟨-, l0, l1, l2, l3, l4, l5, -⟩ := hR5.cells
      have HB5 := hid (And.intro (hN5.frame (Q := fun g => N ≤ g) fun g _ hp => ⟨by have hp : N + 3 ≤ g := hp; omega, rfl⟩) (And.intro hc5 (hB4.trans (hb5.mono (Nat.le_succ N)))))
      clear hR5 hN5 hc5 hb5 hT4
      simp [Leaves, settle, results, Tryz.results9, go_sem, l0, l1, l2, l3, l4, l5]
      obtain rfl := HQ2
      exact ⟨C5, c5, ⟨rfl, rfl⟩, HB5.out.1, HB5.out.2.1, HB5.out.2.2⟩
    · have hR4 := HRV.out.kept hk4 hl3
      have hB4 : Below N w w4 := HBV.out.trans (hk4.below (by have := HBV.out.size; omega) (by omega))
      obtain ⟨qo, qs, qt, qr, qe⟩ := qd
      simp only at he0 hJ4 HQ
      obtain rfl := he0
      obtain ⟨j0, j1, j2, j3, j4, -, -⟩ := hJ4.cells
      have hsz : (⟨qo.toArray⟩ : ByteArray).size = qo.length := by simp [ByteArray.size]
      by_cases hbig : 65536 < qo.length
      · have hi : decide ((qo.length : Int) ≤ 65536) = false := decide_eq_false (by omega)
        have HQ2 : q = ⟨[], 1, t, false, 17⟩ := HQ.out.trans (if_pos hbig)
        clear cJ hk4 HRV HBV hJ4
        go_wp2_with fail
        refine (fits_false _).mono ?_
        rintro e w5 ⟨rfl, rfl⟩
        go_wp2_with fail
        rw [show N + 1 + 1 = N + 2 by omega]
        have hT4 : NodesP w4 (fun _ => True) B t := HNB.out w4 hB4
        refine leaves_cons (f := 21) (args := #[.pointer (some ⟨N, 0, none⟩), .pointer (some ⟨N + 1, 0, none⟩), .pointer (some ⟨N + 2, 0, none⟩)]) (by simp) (by simp [go_sem]) ?_
        refine (runPanic N B d t _ _ _ _ _ _ 1 17 [] _ hR4 hT4 hl hz).mono ?_
        rintro e' u' w5 ⟨rfl, rfl, C5, c5, hR5, hN5, hc5, hb5⟩
        obtain ⟨-, l0, l1, l2, l3, l4, l5, -⟩ := hR5.cells
        have HB5 := hid (And.intro (hN5.frame (Q := fun g => N ≤ g) fun g _ hp => ⟨by have hp : N + 3 ≤ g := hp; omega, rfl⟩) (And.intro hc5 (hB4.trans (hb5.mono (Nat.le_succ N)))))
        clear hR5 hN5 hc5 hb5 hT4
        simp [Leaves, settle, results, Tryz.results9, go_sem, l0, l1, l2, l3, l4, l5]
        obtain rfl := HQ2
        exact ⟨C5, c5, ⟨rfl, rfl⟩, HB5.out.1, HB5.out.2.1, HB5.out.2.2⟩
      · have hi : decide ((qo.length : Int) ≤ 65536) = true := decide_eq_true (by omega)
        have HQ2 : q = ⟨qo, qs, qt, qr, 0⟩ := HQ.out.trans (if_neg hbig)
        have HR1 := hid hR4
        have HB1 := hid hB4
        have HJ4 := hid hJ4
        obtain ⟨-, x0, x1, x2, x3, x4, x5, f0, f1, f2, f3, f4, f5⟩ := hR4.cells
        clear cJ hk4 HRV HBV hJ4 hR4 hB4
        go_wp2_with fail
        refine (fits_true _).mono ?_
        rintro e w5 ⟨rfl, rfl⟩
        go_wp2_with fail
        have hst := HR1.out.stored (encS qo) (.string ⟨#[]⟩) (.int .i64 qs) (.slice C4 qt.length c4) (.bool qr) 0
        have hbb := below_storedU HB1.out (Nat.le_succ _) (encS qo) (.string ⟨#[]⟩) (.int .i64 qs) (.slice C4 qt.length c4) (.bool qr) 0
        have hnn : NodesP (storedU w4 N (encS qo) (.string ⟨#[]⟩) (.int .i64 qs) (.slice C4 qt.length c4) (.bool qr) 0) (fun g => N ≤ g) C4 qt := HJ4.out.nodes.frame fun g hg hp => by
          obtain ⟨h1, -⟩ := hp
          exact ⟨by omega, storedU_high (by omega) (by omega) _ _ _ _ _ _⟩
        have hcc := HJ4.out.hc
        rw [show N + 1 + 1 = N + 2 by omega]
        unfold storedU stored5 at hst hbb hnn
        clear x0 x1 x2 x3 x4 x5 f0 f1 f2 f3 f4 f5
        generalize (((((w4.setCell ⟨N + 1, 0, none⟩ (encS qo)).setCell ⟨N + 1, 1, none⟩ (.string ⟨#[]⟩)).setCell ⟨N + 1, 2, none⟩ (.int .i64 qs)).setCell ⟨N + 1, 3, none⟩ (.slice C4 qt.length c4)).setCell ⟨N + 1, 4, none⟩ (.bool qr)).setCell ⟨N + 2, 0, none⟩ (.int .i64 0) = w5 at *
        obtain ⟨-, l0, l1, l2, l3, l4, l5, -⟩ := hst.cells
        have HB5 := hid (And.intro hnn (And.intro hcc hbb))
        clear hst hbb hnn hcc HR1 HB1 HJ4
        refine leaves_cons (f := 21) (args := #[.pointer (some ⟨N, 0, none⟩), .pointer (some ⟨N + 1, 0, none⟩), .pointer (some ⟨N + 2, 0, none⟩)]) (by simp) (by simp [go_sem]) ?_
        refine (runIdle _ _ _ _).mono ?_
        rintro e' u' w6 ⟨rfl, rfl, rfl⟩
        simp [Leaves, settle, results, Tryz.results9, go_sem, l0, l1, l2, l3, l4, l5]
        obtain rfl := HQ2
        exact ⟨C4, c4, ⟨rfl, rfl⟩, HB5.out.1, HB5.out.2.1, HB5.out.2.2⟩
end Go.Proofs.YtgbibgppjicbgaaGreatDoor
namespace Go.Proofs.YtgbibgppjicbgaaGreatDoor
open Go.RowKit
open Go.Lib (hid)
theorem letters_stop {l : List (List UInt8)} (h : ∀ x r, l = x :: r → optB x = false) (known o : List UInt8) : lettersL known o l = ⟨o, l, true⟩ := by
  cases l with
  | nil => rfl
  | cons x r => rw [letters_cons, h x r rfl]; rfl
theorem letters_rest (known : List UInt8) : ∀ (l : List (List UInt8)) (o : List UInt8), (lettersL known o l).ok = true → ∀ x r, (lettersL known o l).rest = x :: r → optB x = false
  | [], o, _, x, r, h => by cases h
  | y :: s, o, hok, x, r, h => by
    rw [letters_cons] at hok h
    by_cases hy : optB y = true
    · rw [if_pos hy] at hok h
      by_cases hk : (y.drop 1).all (known.contains ·) = true
      · rw [if_pos hk] at hok h
        exact letters_rest known s _ hok x r h
      · rw [if_neg hk] at hok
        cases hok
    · rw [if_neg hy] at h
      cases h
      simpa using hy
theorem letters_again {known o : List UInt8} {l : List (List UInt8)} (h : (lettersL known o l).ok = true) : lettersL [] [] (lettersL known o l).rest = ⟨[], (lettersL known o l).rest, true⟩ := letters_stop (letters_rest known l o h) [] []
section
variable {W : World} {N B : Nat} {C : Option Addr} {c : Nat} {R : Option Addr} {d : Nat} {t : List ND} {args : List (List UInt8)} {inn : List UInt8}
theorem run_cat (h : JobAt W N B C c R d [] 0 t false args inn) (hok : OkT t) (hz : SizeT t) (hl : sizeTs args ≤ 1100000) (hi : inn.length ≤ 1100000) :
    Calls Tryz.prog 23 #[.pointer (some ⟨B, 0, none⟩), encS [99, 97, 116]] W fun e w' => RunJ W N B t inn (dispU [99, 97, 116] args inn t) e w' := by
  refine run_filter _ (.inl rfl) hok hz _ _ _ hl hi (filt_cat h) _ (fun h => h.elim) (fun _ hk => ?_) (fun _ hk => ?_)
  · show textyU [99, 97, 116] t inn args = _
    unfold textyU textyQ
    rw [show textySet [99, 97, 116] = [] from rfl, hk, if_pos rfl]
    rfl
  · show textyU [99, 97, 116] t inn args = _
    unfold textyU textyQ
    rw [show textySet [99, 97, 116] = [] from rfl, hk, if_neg (by decide)]
    rfl
theorem run_lines (tail : Bool) (name : List UInt8) (hn : name = [104, 101, 97, 100] ∧ tail = false ∨ name = [116, 97, 105, 108] ∧ tail = true) (hd : dispU name args inn t = linesU tail t inn args) (F : Int → List UInt8 → List UInt8) (hF : ∀ n s, F n s = if tail then lastL3 s n else headL s n)
    (cF : Calls Tryz.prog 53 #[.pointer (some ⟨B, 0, none⟩), encS name] W fun e w' => FiltPost W N B C c [] 0 t false inn ((linesA args).1 < 0 ∨ args = [[45, 110]]) (linesA args).2 (F (linesA args).1) e w') (hok : OkT t) (hz : SizeT t) (hl : sizeTs args ≤ 1100000) (hi : inn.length ≤ 1100000) :
    Calls Tryz.prog 23 #[.pointer (some ⟨B, 0, none⟩), encS name] W fun e w' => RunJ W N B t inn (dispU name args inn t) e w' := by
  have hsz : sizeTs (linesA args).2 ≤ sizeTs args := by
    unfold linesA
    split
    · rename_i a b r
      split
      · simp [sizeTs]; omega
      · exact Nat.le_refl _
    · exact Nat.le_refl _
  refine run_filter name ?_ hok hz _ _ _ (Nat.le_trans hsz hl) hi cF _ (fun hb => ?_) (fun hb hk => ?_) (fun hb hk => ?_)
  · rcases hn with ⟨rfl, -⟩ | ⟨rfl, -⟩
    · exact .inr (.inl rfl)
    · exact .inr (.inr (.inl rfl))
  all_goals rw [hd]; unfold linesU
  · rcases hb with hb | rfl
    · rw [if_pos (.inl hb)]
    · rw [if_pos (.inr (by decide))]
  · rw [if_pos (.inr hk)]
  · rw [if_neg (by rintro (h | h); exact hb (.inl h); rw [hk] at h; cases h), hF]
theorem run_head (h : JobAt W N B C c R d [] 0 t false args inn) (hok : OkT t) (hz : SizeT t) (hl : sizeTs args ≤ 1100000) (hi : inn.length ≤ 1100000) :
    Calls Tryz.prog 23 #[.pointer (some ⟨B, 0, none⟩), encS [104, 101, 97, 100]] W fun e w' => RunJ W N B t inn (dispU [104, 101, 97, 100] args inn t) e w' :=
  run_lines false _ (.inl ⟨rfl, rfl⟩) rfl (fun n s => headL s n) (fun _ _ => rfl) (filt_head h (by omega)) hok hz hl hi
theorem run_tail (h : JobAt W N B C c R d [] 0 t false args inn) (hok : OkT t) (hz : SizeT t) (hl : sizeTs args ≤ 1100000) (hi : inn.length ≤ 1100000) :
    Calls Tryz.prog 23 #[.pointer (some ⟨B, 0, none⟩), encS [116, 97, 105, 108]] W fun e w' => RunJ W N B t inn (dispU [116, 97, 105, 108] args inn t) e w' :=
  run_lines true _ (.inr ⟨rfl, rfl⟩) rfl (fun n s => lastL3 s n) (fun _ _ => rfl) (filt_tail h (by omega)) hok hz hl hi
theorem run_wc (h : JobAt W N B C c R d [] 0 t false args inn) (hok : OkT t) (hz : SizeT t) (hl : sizeTs args ≤ 1100000) (hi : inn.length ≤ 1100000) :
    Calls Tryz.prog 23 #[.pointer (some ⟨B, 0, none⟩), encS [119, 99]] W fun e w' => RunJ W N B t inn (dispU [119, 99] args inn t) e w' := by
  have hs := letters_size [108, 119, 99] args []
  refine run_filter _ (.inr (.inr (.inr (.inl rfl)))) hok hz _ _ _ (by simp at hs; omega) hi (filt_wc h (by omega)) _ (fun hb => ?_) (fun hb hk => ?_) (fun hb hk => ?_)
  all_goals show countU t inn args = _; unfold countU
  · rw [if_pos hb]
  · have h1 : (lettersL [108, 119, 99] [] args).ok = true := by
      cases h : (lettersL [108, 119, 99] [] args).ok
      · exact absurd (.inl h) hb
      · rfl
    rw [letters_again h1] at hk
    cases hk
  · have h1 : (lettersL [108, 119, 99] [] args).ok = true := by
      cases h : (lettersL [108, 119, 99] [] args).ok
      · exact absurd (.inl h) hb
      · rfl
    rw [if_neg hb, letters_again h1]
end
end Go.Proofs.YtgbibgppjicbgaaGreatDoor

namespace Go.Proofs.YtgbibgppjicbgaaGreatDoor
open Go.RowKit
open Go.Lib (hid)
theorem sizeB_T {b : Nat} {t : List ND} (h : SizeB b t) (hb : b ≤ 274877906944) : SizeT t := fun n hn => by have := h n hn; omega
end Go.Proofs.YtgbibgppjicbgaaGreatDoor

namespace Go.Proofs.YtgbibgppjicbgaaGreatDoor
open Go.RowKit
open Go.Lib (hid)
def NamesOk (w0 : World) : Prop := ∀ (W : World), Below w0.heap.size w0 W → Calls Tryz.prog 15 #[] W fun e w' => ∃ A c, e = .returned (.slice A 23 c) ∧ TextsP w' (fun _ => True) A namesU ∧ Below W.heap.size W w'
def KnownOk (w0 : World) (b : Nat) : Prop := ∀ (s : List UInt8) (W : World), Below w0.heap.size w0 W → s.length ≤ b → Calls Tryz.prog 16 #[encS s] W fun e w' => e = .returned (.bool (namesU.contains s)) ∧ Below W.heap.size W w'
theorem names_all : ∀ x ∈ namesU, namesU.contains x = true ∧ namesU.contains (x ++ [120]) = false ∧ x.length ≤ 8 := by decide +kernel
theorem names_more (k : Nat) (h : k < namesU.length) : namesU.contains (namesU[k]'h) = true ∧ namesU.contains (namesU[k]'h ++ [120]) = false ∧ (namesU[k]'h).length ≤ 8 := names_all _ (List.getElem_mem h)
theorem tmod_place (n : Int) : 0 ≤ (n.tmod 23 + 23).tmod 23 ∧ (n.tmod 23 + 23).tmod 23 < 23 ∧ -23 < n.tmod 23 ∧ n.tmod 23 < 23 := by
  have h1 := Int.tmod_lt_of_pos n (show (0 : Int) < 23 by decide)
  have h2 := Int.lt_tmod_of_pos n (show (0 : Int) < 23 by decide)
  have h3 := Int.tmod_nonneg (a := n.tmod 23 + 23) 23 (by omega)
  have h4 := Int.tmod_lt_of_pos (n.tmod 23 + 23) (show (0 : Int) < 23 by decide)
  exact ⟨h3, h4, by omega, h1⟩
set_option linter.unusedSimpArgs false in
set_option maxRecDepth 100000 in
set_option maxHeartbeats 4000000 in
theorem names_walk {b : Nat} {S : List UInt8 → Prop} {w : World} (hR : RunOk w S b) (hSw : S [119, 99]) (hb : 20 ≤ b) (hN : NamesOk w) (hK : KnownOk w 100) (n : Int) :
    Calls Tryz.prog 6 #[.int .i64 n] w fun e w' => e = .returned (.bool true) ∧ Below w.heap.size w w' := by
  have cA := alive12_any hR hSw (by omega)
  obtain ⟨h0, h1, h2, h3⟩ := tmod_place n
  obtain ⟨q, hq⟩ : ∃ q, n.tmod 23 = q := ⟨_, rfl⟩
  rw [hq] at h0 h1 h2 h3
  obtain ⟨k, hk⟩ : ∃ k : Nat, (q + 23).tmod 23 = (k : Int) := ⟨((q + 23).tmod 23).toNat, by omega⟩
  have hk23 : k < 23 := by omega
  obtain ⟨m1, m2, m3⟩ := names_more k hk23
  have c1 := fun W hB => hK namesU[k] W hB (by omega)
  have c2 := fun W hB => hK (namesU[k] ++ [120]) W hB (by rw [List.length_append]; simp; omega)
  rw [m1] at c1
  rw [m2] at c2
  have HU : Hid (∀ (W : World) A, TextsP W (fun _ => True) A namesU → ∃ g o, A = some ⟨g, o, none⟩ ∧ W.cell? ⟨g, o + k, none⟩ = some (encS namesU[k])) := hid fun W A h => by
    obtain ⟨g, o, e, -, c⟩ := h k hk23
    exact ⟨g, o, e, c⟩
  generalize namesU[k] = s at *
  clear m1 m2
  have hki : (k : Int) < 23 := by omega
  go_enter Tryz.func6, Tryz.ntmps6
  go_wp2_with fail
  refine cA.mono ?_
  rintro e w1 ⟨rfl, hb1⟩
  have HB1 := hid hb1
  clear cA hb1
  go_wp2_with fail
  refine (hN _ HB1.out).mono ?_
  rintro e w2 ⟨A, c, rfl, hT, hb2⟩
  have HB2 := hid (HB1.out.trans (hb2.mono HB1.out.size))
  obtain ⟨g, o, rfl, hc⟩ := HU.out w2 A hT
  clear hT hb2
  go_wp2_with fail
  refine (c1 _ HB2.out).mono ?_
  rintro e w3 ⟨rfl, hb3⟩
  have HB3 := hid (HB2.out.trans (hb3.mono HB2.out.size))
  have hc3 := cell_below hb3 hc
  clear hb3 c1
  go_wp2_with fail
  refine (c2 _ HB3.out).mono ?_
  rintro e w4 ⟨rfl, hb4⟩
  have HB4 := hid (HB3.out.trans (hb4.mono HB3.out.size))
  go_wp2_with fail
  go_ret
  exact ⟨rfl, HB4.out⟩
end Go.Proofs.YtgbibgppjicbgaaGreatDoor
namespace Go.Proofs.YtgbibgppjicbgaaGreatDoor
open Go.ChangeShapes Go.WideShapes Go.ChangeAt Go.WideElems Go.RowKit
theorem laid_at {P : Program} {W : World} : ∀ (l : List (String × DataW Unit)) (ps : List MemPlace), DataW.LaidVars P W l ps → ∀ (i : Nat) n d, l[i]? = some (n, d) → ∃ g t cs fuel p, P.globalNamed n = some g ∧ (P.globals[g]?).map (·.type) = some t ∧ W.var? P n = some cs ∧ DataW.trod (fun _ => ()) P W 0 (fun _ => true) false fuel t cs.toList = some (d, p)
  | [], _, _, i, n, d, h => by simp at h
  | (m, e) :: r, ps, hl, 0, n, d, h => by
    obtain ⟨g, t, cs, fuel, p, q, h1, h2, h3, h4, -, -⟩ := hl
    have h : some (m, e) = some (n, d) := h
    cases h
    exact ⟨g, t, cs, fuel, p, h1, h2, h3, h4⟩
  | (m, e) :: r, ps, hl, i + 1, n, d, h => by
    obtain ⟨g, t, cs, fuel, p, q, -, -, -, -, h5, -⟩ := hl
    exact laid_at r q h5 i n d (by simpa using h)
theorem g_tab64 : Tryz.prog.globalNamed "math/bits.deBruijn64tab" = some 7 := by kernel_rfl
theorem t_tab64 : (Tryz.prog.globals[7]?).map (·.type) = some 354 := by kernel_rfl
theorem g_space : Tryz.prog.globalNamed "strings.asciiSpace" = some 0 := by kernel_rfl
theorem t_space : (Tryz.prog.globals[0]?).map (·.type) = some 77 := by kernel_rfl
theorem data_space : (Rows.laid_strings_asciiSpace : DataW Unit) = Lib.tabData .u8 Lib.asciiSpaceTab := by kernel_rfl
set_option maxRecDepth 100000 in
theorem tab_of_laid {W : World} (h : laidMetH Tryz.prog Rows.utilsNamesRow.laid W) : LaidU W := by
  rw [MakeChecks.laidMetH_plain _ _ _ (by kernel_rfl)] at h
  obtain ⟨ps, hl, -, -⟩ := h
  have c5 : Tryz.prog.cellsOf 5 = 1 := by kernel_rfl
  refine ⟨?_, ?_⟩
  · obtain ⟨g, t, cs, fuel, p, hg, ht, hv, hd⟩ := laid_at _ ps hl 5 "strings.asciiSpace" Rows.laid_strings_asciiSpace rfl
    obtain rfl := Option.some.inj (g_space.symm.trans hg)
    obtain rfl := Option.some.inj (t_space.symm.trans ht)
    rw [data_space] at hd
    have hc := Lib.cells_of_tab Tryz.underlying77 Tryz.underlying5 c5 (by kernel_rfl) hd
    have hT : Lib.TabIs Tryz.prog W "strings.asciiSpace" .u8 Lib.asciiSpaceTab := by
      unfold Lib.TabIs
      rw [hv, ← hc]
    intro c hc256
    rw [hT.cell hg c (by rw [Lib.asciiSpaceTab_length]; exact hc256), Lib.asciiSpaceTab_at c hc256]
  · obtain ⟨g1, t1, cs1, f1, p1, hg1, ht1, hv1, hd1⟩ := laid_at _ ps hl 1 "math/bits.deBruijn64tab" Rows.laid_math_bits_deBruijn64tab rfl
    obtain rfl := Option.some.inj (g_tab64.symm.trans hg1)
    obtain rfl := Option.some.inj (t_tab64.symm.trans ht1)
    obtain ⟨xs, m1, rfl, hx1, hlen, hn3, hel⟩ := DataW.trod_array Tryz.underlying354 hd1
    have hL : (Rows.laid_math_bits_deBruijn64tab : DataW Unit) = .agg (xs.map (·.1)) := (Prod.mk.inj hx1).1
    have key : ∀ (i : Nat) (m : Int), i < 64 → (match (Rows.laid_math_bits_deBruijn64tab : DataW Unit) with | .agg l => l[i]? | _ => none) = some (.lit (.int .u8 m)) → W.cell? ⟨7, i, none⟩ = some (.int .u8 m) := fun i m hi hd => by
      obtain ⟨x, hx⟩ : ∃ x, xs[i]? = some x := ⟨xs[i], List.getElem?_eq_getElem (by omega)⟩
      have h0 := hel i hi
      rw [hx, c5] at h0
      obtain ⟨k, e1, e2, -⟩ := DataW.trod_int Tryz.underlying5 h0
      rw [hL] at hd
      have hk : (xs.map (·.1))[i]? = some (.lit (.int .u8 k)) := by rw [List.getElem?_map, hx, e2]; rfl
      have hmk : k = m := by
        have := hk.symm.trans hd
        simpa using this
      subst hmk
      rw [World.var?_cell hg1 hv1 i]
      rw [Nat.mul_one] at e1
      have h2 : ((cs1.toList.drop i).take 1)[0]? = some (.int .u8 k) := by rw [e1]; rfl
      rw [List.getElem?_take_of_lt (by omega), List.getElem?_drop, Nat.add_zero, Array.getElem?_toList] at h2
      exact h2
    exact ⟨key 7 3 (by decide) rfl, key 15 4 (by decide) rfl⟩
end Go.Proofs.YtgbibgppjicbgaaGreatDoor

namespace Go.Proofs.YtgbibgppjicbgaaGreatDoor
open Go.ChangeShapes Go.WideShapes Go.ChangeAt Go.RowKit
theorem own : ownKnob Tryz.prog.godebug = none := by kernel_rfl
theorem laidOut : laidOutB Tryz.prog = true := by kernel_rfl
theorem below_trodAll {P : Program} (hl : laidOutB P = true) {H : Type} {enc : TypeId × Value → H} {W W' : World} (hB : Below W.heap.size W W') : ∀ (ts : List TypeId) (vs : List Value) (ds : List (DataW H)) (ps : List MemPlace),
    (∀ t ∈ ts, P.readableRec t = true ∧ t < P.types.size) → DataW.TrodAll enc P W 0 (fun _ => true) true ts vs ds ps → (∀ x ∈ ps, x.block < W.heap.size) →
    DataW.TrodAll enc P W' 0 (fun b => decide (b < W.heap.size)) true ts vs ds ps := by
  intro ts
  induction ts with
  | nil =>
    intro vs ds ps _ h _
    cases vs <;> cases ds <;> exact h
  | cons t ts ih =>
    intro vs ds ps hr h hlt
    cases vs with
    | nil => exact h.elim
    | cons v vs =>
      cases ds with
      | nil => exact h.elim
      | cons d ds =>
        obtain ⟨p, q, h1, h2, e⟩ := h
        have hr0 := hr t (List.mem_cons.2 (Or.inl rfl))
        exact ⟨p, q, Below.trod hl hr0.1 hr0.2 h1 hB (fun x hx => hlt x (by rw [e]; exact List.mem_append_left _ hx)), ih vs ds q (fun t ht => hr t (List.mem_cons.2 (Or.inr ht))) h2 (fun x hx => hlt x (by rw [e]; exact List.mem_append_right _ hx)), e⟩
theorem rows_ok {P : Program} {ts : List TypeId} (h : (ts.all fun t => P.readableRec t && decide (t < P.types.size)) = true) : ∀ t ∈ ts, P.readableRec t = true ∧ t < P.types.size := fun t ht => by
  have := List.all_eq_true.1 h t ht
  simpa using this
end Go.Proofs.YtgbibgppjicbgaaGreatDoor
namespace Go.Proofs.YtgbibgppjicbgaaGreatDoor
open Go.RowKit
def PipeS (n : List UInt8) : Prop := n = [119, 99] ∨ n = [99, 97, 116] ∨ n = [104, 101, 97, 100] ∨ n = [116, 97, 105, 108]
theorem run_pipes {w : World} (hL : LaidU w) : RunOk w PipeS 1048600 := fun name args inn t A c B d W hS hB hn hA hc hz hi hN ht hd hs => by
  have hst := sizeB_T hs (by decide)
  refine run_any name args inn t A c B d W (hL.1.below hB) hA hc hN (by omega) hd hst ?_
  intro hok _ V J C cc R dd h _
  rcases hS with rfl | rfl | rfl | rfl
  · exact run_wc h hok hst (by omega) (by omega)
  · exact run_cat h hok hst (by omega) (by omega)
  · exact run_head h hok hst (by omega) (by omega)
  · exact run_tail h hok hst (by omega) (by omega)
theorem names_ok {w : World} (hL : LaidU w) : NamesOk w := fun W hB => (names_any W (hL.1.below hB)).mono fun _ _ ⟨_, h1, h2, h3⟩ => ⟨_, _, h1, h2, h3⟩
theorem known_ok {w : World} (hL : LaidU w) (b : Nat) : KnownOk w b := fun s W hB _ => known_any s W (hL.1.below hB)
theorem names_full (n : Int) (w : World) (_ : (Lit.int .i64 n).wf = true) (hL : LaidU w) :
    Calls Tryz.prog 6 #[.int .i64 n] w fun e w' => e = .returned (.bool true) ∧ Below w.heap.size w w' :=
  names_walk (run_pipes hL) (.inl rfl) (by decide) (names_ok hL) (known_ok hL 100) n
end Go.Proofs.YtgbibgppjicbgaaGreatDoor
