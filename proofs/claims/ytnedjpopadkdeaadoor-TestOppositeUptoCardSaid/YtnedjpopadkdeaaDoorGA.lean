/- tree.copied: a node of the same texts. Conditions: sizes. tree.joined: nodes of several lists, one list behind the other, in memory of its own. Conditions: sizes. tree.at, spot.room. Conditions: sizes. tree.written's closure. Conditions: sizes; a tree that may be. tree.written's closure, walked. Conditions: sizes; a tree that may be. tree.written, tree.Put, tree.Add. Conditions: sizes. tree.Get, tree.Kind. Conditions: sizes. -/
import Derived.Test.YtnedjpopadkdeaaDoorDrawn
import Derived.Test.YtnedjpopadkdeaaDoorPgC
import Derived.Test.YtnedjpopadkdeaaDoorPgH
import Derived.Deep.QuietTactic
import Derived.BigQuiet
namespace Go.Proofs.YtnedjpopadkdeaaDoor
open Go.RowKit
open Go.Lib (hid)

theorem Cells.set {L : List (Addr × Value)} {w : World} (h : Cells L w) {p : Addr} (hp : ∀ q ∈ L, q.1.block ≠ p.block) (v : Value) : Cells L (w.setCell p v) := fun q hq =>
  (World.cell?_setCell_other w p q.1 v fun e => hp q hq (by rw [e])).trans (h q hq)
theorem Box3.free {W : World} {g : Nat} {a b c : Value} (h : Box3 W g a b c) (o : Nat) : W.frozen? ⟨g, o, none⟩ = false := by
  unfold Box3 at h
  simp [World.frozen?, h]
theorem heapN_set {w : World} {b k : Nat} {cs : Array Value} {t : TypeId} {f : Nat × Nat} (h : w.heap[b]? = some (.cells cs t f)) (v : Value) : (w.setCell ⟨b, k, none⟩ v).heap[b]? = some (.cells (cs.setIfInBounds k v) t f) := by
  show (w.heap.modify b _)[b]? = _
  rw [Array.getElem?_modify, if_pos rfl, h]
  rfl
theorem Box3.set {W : World} {g : Nat} {a b c : Value} (h : Box3 W g a b c) (a' b' c' : Value) : Box3 (((W.setCell ⟨g, 0, none⟩ a').setCell ⟨g, 1, none⟩ b').setCell ⟨g, 2, none⟩ c') g a' b' c' := by
  simpa [Box3] using heapN_set (k := 2) (heapN_set (k := 1) (heapN_set (k := 0) h a') b') c'
end Go.Proofs.YtnedjpopadkdeaaDoor
namespace Go.Proofs.YtnedjpopadkdeaaDoor
open Go.RowKit
open Go.Lib (hid)

/-- Slices of nodes, one behind the other in block g from place o on. -/
def SlicesP (w : World) (g o : Nat) (ss : List (Option Addr × Nat × List ND)) : Prop :=
  ∀ k (h : k < ss.length), w.cell? ⟨g, o + k, none⟩ = some (.slice ss[k].1 ss[k].2.2.length ss[k].2.1) ∧ NodesP w (fun _ => True) ss[k].1 ss[k].2.2
def allN (ss : List (Option Addr × Nat × List ND)) : List ND := ss.flatMap (·.2.2)
theorem allN_succ (ss : List (Option Addr × Nat × List ND)) (k : Nat) (h : k < ss.length) : allN (ss.take (k + 1)) = allN (ss.take k) ++ ss[k].2.2 := by
  unfold allN
  rw [List.take_succ_eq_append_getElem h, List.flatMap_append]
  simp
theorem allN_le (ss : List (Option Addr × Nat × List ND)) (k : Nat) (h : k < ss.length) : (allN (ss.take k)).length + ss[k].2.2.length ≤ (allN ss).length := by
  have e : allN ss = allN (ss.take (k + 1)) ++ allN (ss.drop (k + 1)) := by unfold allN; rw [← List.flatMap_append, List.take_append_drop]
  rw [e, allN_succ ss k h]
  simp
theorem allN_mem {ss : List (Option Addr × Nat × List ND)} {k : Nat} {h : k < ss.length} {n : ND} (hn : n ∈ ss[k].2.2) : n ∈ allN ss := List.mem_flatMap.2 ⟨_, List.getElem_mem h, hn⟩

end Go.Proofs.YtnedjpopadkdeaaDoor
namespace Go.Proofs.YtnedjpopadkdeaaDoor
open Go.RowKit
open Go.Lib (hid)

set_option maxHeartbeats 2000000 in
theorem at_err (g : Nat) (lb : Array Value) (A : Option Addr) (c : Nat) (t : List ND) (p : List UInt8) (f : Int) (w : World) (hT : NodesP w (fun _ => True) A t) (hl : t.length ≤ 1099511627776) (hz : SizeT t) (hcap : t.length ≤ c) (hp : p.length ≤ 274877906944) (ha : askQ t p = ([], f)) (hf : f ≠ 0) :
    Calls Tryd.prog 32 #[.slice A t.length c, encS p, .func (.func g) #[] lb] w fun e w' => e = .returned (.int .i64 f) ∧ Below w.heap.size w w' := by
  have cC := tCheck_any A c t w hT hl hz hcap
  have cP := fun W => tPath_any p W (by omega)
  rcases checkL_cases t with ⟨h, h0⟩ | ⟨h, h0⟩
  · have hq : pathQ p = ([], f) := by unfold askQ at ha; rw [if_pos h] at ha; exact ha
    rw [h0] at cC
    rw [hq] at cP
    have q1 : (f == 0) = false := by simpa using hf
    have q2 : (f != 0) = true := by simpa using hf
    clear h h0 hT hz ha hf hq
    go_enter Tryd.func32, Tryd.ntmps32
    go_wp2_with fail
    refine cC.mono ?_
    rintro e w1 ⟨rfl, hb1⟩
    have HB := hid hb1
    clear hb1 cC
    go_wp2_with fail
    refine (cP _).mono ?_
    rintro e w2 ⟨rfl, hb2⟩
    have HB2 := hid (HB.out.trans (hb2.mono HB.out.size))
    clear hb2 cP
    go_wp2_with fail
    go_ret
    exact ⟨rfl, HB2.out⟩
  · have hq : f = 9 := by unfold askQ at ha; rw [if_neg h] at ha; exact (Prod.mk.inj ha).2.symm
    subst hq
    rw [h0] at cC
    clear h h0 hT hz ha cP
    go_enter Tryd.func32, Tryd.ntmps32
    go_wp2_with fail
    refine cC.mono ?_
    rintro e w1 ⟨rfl, hb1⟩
    have HB := hid hb1
    clear hb1 cC
    go_wp2_with fail
    go_ret
    exact ⟨rfl, HB.out⟩

def AtPost (R : Int → World → Prop) (e : Ending) (w' : World) : Prop := ∃ n, e = .returned (.int .i64 n) ∧ R n w'
set_option maxHeartbeats 2000000 in
theorem at_ok (g : Nat) (lb : Array Value) (eg : ∀ args w, (callFunc g args).run Tryd.prog w = .ok (.enter g args) w) (R : Int → World → Prop) (A : Option Addr) (c : Nat) (t : List ND) (p : List UInt8) (w : World) (hT : NodesP w (fun _ => True) A t) (hl : t.length ≤ 1099511627776) (hz : SizeT t) (hcap : t.length ≤ c) (hp : p.length ≤ 274877906944) (hok : OkT t) (hq : pathQ p = (pathL p, 0))
    (hdo : ∀ W, Below w.heap.size w W → Calls Tryd.prog g (#[.agg #[encS (pathL p), .int .i64 (whereN t (pathL p)), .int .i64 (kindL t (pathL p))]] ++ lb) W (AtPost R)) :
    Calls Tryd.prog 32 #[.slice A t.length c, encS p, .func (.func g) #[] lb] w (AtPost R) := by
  have cC := tCheck_any A c t w hT hl hz hcap
  have cP := fun W => tPath_any p W (by omega)
  rw [checkL_ok hok] at cC
  rw [hq] at cP
  have cW := fun W (hb : Below w.heap.size w W) => where_any A c t (pathL p) W (hT.below hb) hl hok.asc
  have cK := fun W (hb : Below w.heap.size w W) => kindOf_any A c t (pathL p) W (hT.below hb) hl hok.asc
  generalize whereN t (pathL p) = wh at *
  generalize kindL t (pathL p) = K at *
  generalize pathL p = P at *
  clear hT hz hok hq
  go_enter Tryd.func32, Tryd.ntmps32
  go_wp2_with fail
  refine cC.mono ?_
  rintro e w1 ⟨rfl, hb1⟩
  have HB := hid hb1
  clear hb1 cC
  go_wp2_with fail
  refine (cP _).mono ?_
  rintro e w2 ⟨rfl, hb2⟩
  have HB2 := hid (HB.out.trans (hb2.mono HB.out.size))
  have cW2 := cW w2 HB2.out
  clear hb2 cP cW
  go_wp2_with fail
  refine cW2.mono ?_
  rintro e w3 ⟨rfl, hb3⟩
  have HB3 := hid (HB2.out.trans (hb3.mono HB2.out.size))
  have cK3 := cK w3 HB3.out
  clear hb3 cW2 cK
  go_wp2_with fail
  refine cK3.mono ?_
  rintro e w4 ⟨rfl, hb4⟩
  have cD := hdo w4 (HB3.out.trans (hb4.mono HB3.out.size))
  clear hb4 cK3 hdo
  go_wp2_with (go_at_fn g; refine cD.mono ?_; rintro e w5 ⟨n, rfl, hR⟩)
  have HR := hid hR
  clear hR cD
  go_wp2_with fail
  go_ret
  exact ⟨n, rfl, HR.out⟩

/-- What room tells: an error of a place for something new, of so many octets more. -/
def roomR (t : List ND) (P : List UInt8) (K more : Int) : Int := if kindL t (homeL P) = 0 then 71 else if kindL t (homeL P) = 1 then 16 else if (K = 0 ∧ 256 ≤ t.length) ∨ 65536 < (sumX t : Int) + more then 17 else 0
end Go.Proofs.YtnedjpopadkdeaaDoor
namespace Go.Proofs.YtnedjpopadkdeaaDoor
open Go.RowKit
open Go.Lib (hid)

def oldL (t : List ND) (P : List UInt8) : List UInt8 := ((findN t P).map (·.x)).getD []
noncomputable def writtenQ (t : List ND) (P : List UInt8) (y : List UInt8) : List ND × Int :=
  if kindL t P = 2 then ([], 15) else if roomL t P ≠ 0 then ([], roomL t P) else fitsQ (withL t ⟨P, false, y⟩)
theorem old_cases {t : List ND} {P : List UInt8} (ha : Asc t) (hK : kindL t P ≠ 2) : (kindL t P = 0 ∧ findN t P = none ∧ oldL t P = []) ∨ (kindL t P = 1 ∧ ∃ h : whereN t P < t.length, findN t P = some t[whereN t P] ∧ oldL t P = t[whereN t P].x) := by
  rcases kind_cases t P with ⟨h, _, h2⟩ | ⟨h, _, n, h2, _⟩ | ⟨h, _⟩
  · exact .inl ⟨h, h2, by unfold oldL; rw [h2]; rfl⟩
  · rcases where_find ha P with ⟨h3, _, h4⟩ | ⟨_, h4⟩
    · exact .inr ⟨h, h3, h4, by unfold oldL; rw [h4]; rfl⟩
    · rw [h4] at h2; cases h2
  · exact absurd h hK
theorem fits_room {t : List ND} {P y : List UInt8} (hok : OkT t) (hK : kindL t P ≠ 2) :
    ((kindL t P = 0 ∧ 256 ≤ t.length) ∨ 65536 < (sumX t : Int) + ((y.length : Int) - ((oldL t P).length : Int))) ↔ ¬ ((withL t ⟨P, false, y⟩).length ≤ 256 ∧ sumX (withL t ⟨P, false, y⟩) ≤ 65536) := by
  rw [withL_ins]
  have h256 := hok.1
  have hsm := hok.sum
  rcases old_cases hok.asc hK with ⟨h0, h1, h2⟩ | ⟨h0, hw, h1, h2⟩
  · obtain ⟨e1, e2⟩ := sum_new (n := ⟨P, false, y⟩) hok.asc h1
    rw [e1, e2, h0, h2]
    simp
    omega
  · obtain ⟨e1, e2⟩ := sum_old (n := ⟨P, false, y⟩) hok.asc h1
    rw [e2, h0, h2]
    have e1 : sumX (insN ⟨P, false, y⟩ t) + t[whereN t P].x.length = sumX t + y.length := e1
    simp
    omega
/-- Where the node goes, and what stands behind it. -/
def behindN (t : List ND) (P : List UInt8) : Nat := if kindL t P = 1 then whereN t P + 1 else whereN t P
theorem with_parts {t : List ND} {P y : List UInt8} (hok : OkT t) (hK : kindL t P ≠ 2) : withL t ⟨P, false, y⟩ = t.take (whereN t P) ++ (⟨P, false, y⟩ :: t.drop (behindN t P)) := by
  rw [withL_ins]
  unfold behindN
  rcases old_cases hok.asc hK with ⟨h0, h1, h2⟩ | ⟨h0, hw, h1, h2⟩
  · rw [h0, if_neg (by decide)]
    exact ins_new ⟨P, false, y⟩ hok.asc h1
  · rw [h0, if_pos rfl]
    exact ins_old ⟨P, false, y⟩ hok.asc h1
theorem behind_le {t : List ND} {P : List UInt8} (hok : OkT t) (hK : kindL t P ≠ 2) : behindN t P ≤ t.length := by
  unfold behindN
  rcases old_cases hok.asc hK with ⟨h0, _⟩ | ⟨h0, hw, _⟩
  · rw [h0, if_neg (by decide)]; exact where_le t P
  · rw [h0, if_pos rfl]; omega
theorem room_home {t : List ND} {P : List UInt8} (h : pathL P = P) (h47 : P ≠ [47]) (K more : Int) : roomR t P K more = if roomL t P ≠ 0 then roomL t P else if (K = 0 ∧ 256 ≤ t.length) ∨ 65536 < (sumX t : Int) + more then 17 else 0 := by
  unfold roomR roomL
  rw [home_above h h47]
  rcases kind_cases t (aboveL P) with ⟨e, _⟩ | ⟨e, _⟩ | ⟨e, _⟩ <;> rw [e] <;> simp
end Go.Proofs.YtnedjpopadkdeaaDoor
namespace Go.Proofs.YtnedjpopadkdeaaDoor
open Go.RowKit
open Go.Lib (hid)

/-- What a closure that at calls leaves: a tree in the variable ab, and a number. -/
def ClosR (N ab : Nat) (w0 : World) (q : List ND × Int) (n : Int) (W' : World) : Prop :=
  n = q.2 ∧ ∃ a c, W'.heap[ab]? = some (.cells #[.slice a q.1.length c] 23 (0, 0)) ∧ OwnN W' N a c q.1 ∧ Below N w0 W'
theorem closR_nil {N ab : Nat} {w0 W' : World} {q : List ND × Int} {f : Int} (hq : q = ([], f)) (h4 : W'.heap[ab]? = some (.cells #[.slice none 0 0] 23 (0, 0))) (hB : Below N w0 W') : AtPost (ClosR N ab w0 q) (.returned (.int .i64 f)) W' := by
  subst hq
  exact ⟨f, rfl, rfl, none, 0, h4, World.ownsRow_nil _ _ _ _, hB⟩
/-- What stands behind place b of a slice of nodes. -/
theorem nodes_drop {w : World} {A : Option Addr} {c b : Nat} {t : List ND} (h : NodesP w (fun _ => True) A t) (hc : t.length ≤ c) : NodesP w (fun _ => True) (if c = b then A else A.map (·.add (b * 3))) (t.drop b) := fun j hj => by
  rw [List.length_drop] at hj
  obtain ⟨g, o, rfl, _, c0, c1, c2⟩ := h (b + j) (by omega)
  rw [if_neg (by omega)]
  refine ⟨g, o + b * 3, by simp [add_at], trivial, ?_, ?_, ?_⟩
  · rw [List.getElem_drop, show o + b * 3 + j * 3 = o + (b + j) * 3 by omega]; exact c0
  · rw [List.getElem_drop, show o + b * 3 + j * 3 = o + (b + j) * 3 by omega]; exact c1
  · rw [List.getElem_drop, show o + b * 3 + j * 3 = o + (b + j) * 3 by omega]; exact c2

theorem okT_x {t : List ND} (h : OkT t) {n : ND} (hn : n ∈ t) : n.x.length ≤ 65536 := Nat.le_trans (sumX_mem hn) h.sum
end Go.Proofs.YtnedjpopadkdeaaDoor
namespace Go.Proofs.YtnedjpopadkdeaaDoor
open Go.RowKit
open Go.Lib (hid)

/-- Four variables, made one behind the other. -/
theorem four_boxes (w : World) (o0 o1 o2 o3 : Obj) {W : World} (hW : (((w.alloc o0).alloc o1).alloc o2).alloc o3 = W) :
    W.heap[w.heap.size]? = some o0 ∧ W.heap[w.heap.size + 1]? = some o1 ∧ W.heap[w.heap.size + 2]? = some o2 ∧ W.heap[w.heap.size + 3]? = some o3 ∧ W.heap.size = w.heap.size + 4 ∧ Below w.heap.size w W := by
  subst hW
  refine ⟨?_, ?_, ?_, ?_, by simp, ((((Below.refl _ _).alloc (Nat.le_refl _) _).alloc (by simp) _).alloc (by simp; omega) _).alloc (by simp; omega) _⟩
  · exact (Below.heap_alloc _ _ _ (by simp; omega)).trans ((Below.heap_alloc _ _ _ (by simp; omega)).trans ((Below.heap_alloc _ _ _ (by simp)).trans (heap_alloc_new w _)))
  · have := heap_alloc_new (w.alloc o0) o1
    rw [World.size_alloc] at this
    exact (Below.heap_alloc _ _ _ (by simp)).trans ((Below.heap_alloc _ _ _ (by simp)).trans this)
  · have := heap_alloc_new ((w.alloc o0).alloc o1) o2
    rw [World.size_alloc, World.size_alloc] at this
    exact (Below.heap_alloc _ _ _ (by simp)).trans this
  · have := heap_alloc_new (((w.alloc o0).alloc o1).alloc o2) o3
    rw [World.size_alloc, World.size_alloc, World.size_alloc] at this
    exact this
theorem set_same {w : World} {b : Nat} {v : Value} {t : TypeId} (h : w.heap[b]? = some (.cells #[v] t (0, 0))) : w.setCell ⟨b, 0, none⟩ v = w := by
  have hh : (w.setCell ⟨b, 0, none⟩ v).heap = w.heap := by
    apply Array.ext_getElem?
    intro i
    by_cases e : i = b
    · subst e
      rw [one_setCell h, h]
    · exact Below.heap_setCell _ _ _ _ e
  calc w.setCell ⟨b, 0, none⟩ v = { w with heap := (w.setCell ⟨b, 0, none⟩ v).heap } := rfl
    _ = w := by rw [hh]
noncomputable def wrQ (t : List ND) (p y : List UInt8) : List ND × Int := if (askQ t p).2 ≠ 0 then ([], (askQ t p).2) else writtenQ t (pathL p) y
theorem wrQ_put (t : List ND) (p x : List UInt8) : wrQ t p x = putQ t p x := rfl

theorem addQ_wr (t : List ND) (p x : List UInt8) : addQ t p x = wrQ t p (oldL t (pathL p) ++ x) := by
  rw [wrQ_put]
  rcases askQ_cases t p with ⟨ha, _⟩ | ⟨ha, _⟩ | ⟨ha, _⟩
  · rcases kind_cases t (pathL p) with ⟨hk, -, hf⟩ | ⟨hk, -, n, hf, -⟩ | ⟨hk, -⟩
    · have hg : getQ t p = ([], 71) := by unfold getQ; rw [ha, if_neg (by simp), if_pos hk]
      unfold addQ oldL
      rw [hg, hf, if_neg (by simp)]
      rfl
    · have hg : getQ t p = (n.x, 0) := by unfold getQ; rw [ha, if_neg (by simp), if_neg (by rw [hk]; decide), if_neg (by rw [hk]; decide), hf]; rfl
      unfold addQ oldL
      rw [hg, hf, if_neg (by simp)]
      rfl
    · have hg : getQ t p = ([], 15) := by unfold getQ; rw [ha, if_neg (by simp), if_neg (by rw [hk]; decide), if_pos hk]
      unfold addQ
      rw [hg, if_pos (by simp)]
      unfold putQ
      rw [ha, if_neg (by simp), if_pos hk]
  · have hg : getQ t p = ([], 31) := getQ_ask ha (by decide)
    unfold addQ
    rw [hg, if_pos (by simp)]
    unfold putQ
    rw [ha, if_pos (by simp)]
  · have hg : getQ t p = ([], 9) := getQ_ask ha (by decide)
    unfold addQ
    rw [hg, if_pos (by simp)]
    unfold putQ
    rw [ha, if_pos (by simp)]
end Go.Proofs.YtnedjpopadkdeaaDoor
namespace Go.Proofs.YtnedjpopadkdeaaDoor
open Go.RowKit
open Go.Lib (hid)

def GetR (N rb : Nat) (w0 : World) (q : List UInt8 × Int) (n : Int) (W' : World) : Prop := n = q.2 ∧ W'.heap[rb]? = some (.cells #[encS q.1] 9 (0, 0)) ∧ Below N w0 W'
theorem getR_nil {N rb : Nat} {w0 W' : World} {q : List UInt8 × Int} {f : Int} (hq : q = ([], f)) (h4 : W'.heap[rb]? = some (.cells #[.string ⟨#[]⟩] 9 (0, 0))) (hB : Below N w0 W') : AtPost (GetR N rb w0 q) (.returned (.int .i64 f)) W' := by
  subst hq
  exact ⟨f, rfl, rfl, h4, hB⟩

set_option maxRecDepth 100000 in
set_option maxHeartbeats 4000000 in
theorem getFn (A : Option Addr) (c : Nat) (t : List ND) (p : List UInt8) (tb rb N : Nat) (w0 W : World) (hN : N ≤ rb) (h1 : W.heap[tb]? = some (.cells #[.slice A t.length c] 23 (0, 0))) (h4 : W.heap[rb]? = some (.cells #[.string ⟨#[]⟩] 9 (0, 0)))
    (hB : Below N w0 W) (hT : NodesP W (fun _ => True) A t) (hok : OkT t) (ha : askQ t p = (pathL p, 0)) :
    Calls Tryd.prog 34 #[.agg #[encS (pathL p), .int .i64 (whereN t (pathL p)), .int .i64 (kindL t (pathL p))], .pointer (some ⟨tb, 0, none⟩), .pointer (some ⟨rb, 0, none⟩)] W (AtPost (GetR N rb w0 (getQ t p))) := by
  have hNW : N ≤ W.heap.size := by have := lt_of_block h4; omega
  obtain ⟨P, hP⟩ : ∃ P, pathL p = P := ⟨_, rfl⟩
  have hq : getQ t p = if kindL t P = 0 then ([], 71) else if kindL t P = 2 then ([], 15) else (((findN t P).map (·.x)).getD [], 0) := by unfold getQ; rw [ha, ← hP]; simp
  rw [hP]
  obtain ⟨W1, hW1⟩ : ∃ W1, W.alloc (.cells #[encS P, .int .i64 (whereN t P), .int .i64 (kindL t P)] 51) = W1 := ⟨_, rfl⟩
  have hal : Below W.heap.size W W1 := by rw [← hW1]; exact (Below.refl _ _).alloc (Nat.le_refl _) _
  have hsp : W1.heap[W.heap.size]? = some (.cells #[encS P, .int .i64 (whereN t P), .int .i64 (kindL t P)] 51 (0, 0)) := by rw [← hW1]; exact heap_alloc_new _ _
  have g1 := heap_below' h1 hal; have g4 := heap_below' h4 hal
  have hT1 := hT.below hal
  have hB1 := hB.trans (hal.mono hNW)
  have x1 : W1.cell? ⟨W.heap.size, 1, none⟩ = some (.int .i64 (whereN t P)) := by simp [World.cell?, hsp]
  have x2 : W1.cell? ⟨W.heap.size, 2, none⟩ = some (.int .i64 (kindL t P)) := by simp [World.cell?, hsp]
  have y1 := cell_of_one g1
  by_cases hK : kindL t P = 2
  · have HQ : Hid (getQ t p = ([], 15)) := hid (by rw [hq, hK]; rfl)
    rw [hK] at x2 hW1 ⊢
    have HF := hid (And.intro g4 hB1)
    clear hT hT1 hok hK g1 g4 h1 h4 hsp hB hB1 y1 x1 ha hq hP
    go_enter Tryd.func34, Tryd.ntmps34
    go_wp2
    go_ret
    exact getR_nil HQ.out HF.out.1 HF.out.2
  rcases old_cases hok.asc hK with ⟨hK0, hf, ho⟩ | ⟨hK1, hw, hf, ho⟩
  · have HQ : Hid (getQ t p = ([], 71)) := hid (by rw [hq, hK0]; rfl)
    rw [hK0] at x2 hW1 ⊢
    have HF := hid (And.intro g4 hB1)
    clear hT hT1 hok hK hK0 hf ho g1 g4 h1 h4 hsp hB hB1 y1 x1 ha hq hP
    go_enter Tryd.func34, Tryd.ntmps34
    go_wp2
    go_ret
    exact getR_nil HQ.out HF.out.1 HF.out.2
  · have HQ : Hid (getQ t p = (t[whereN t P].x, 0)) := hid (by rw [hq, hK1, hf]; rfl)
    obtain ⟨g, o, rfl, -, -, -, c2⟩ := hT1 (whereN t P) hw
    have hxl := okT_x hok (List.getElem_mem hw)
    generalize t[whereN t P].x = nx at *
    have cC := fun W => clone_any nx (by omega) W
    rw [hK1] at x2 hW1 ⊢
    have hNW1 := hal.size
    clear hT hT1 hok hK hK1 hf ho g1 h1 h4 hsp hB ha hq hP
    go_enter Tryd.func34, Tryd.ntmps34
    go_wp2_with fail
    refine (cC _).mono ?_
    rintro e w2 ⟨rfl, hb2⟩
    have g5 := heap_below' g4 hb2
    have e0 := cell_of_one g5; have f0 := free_of_one g5
    have HF := hid (And.intro (one_setCell (u := encS nx) g5) ((hB1.trans (hb2.mono (Nat.le_trans hNW hNW1))).setCell (p := ⟨rb, 0, none⟩) hN (encS nx)))
    clear hb2 cC g4 g5 hB1
    go_wp2
    go_ret
    rw [HQ.out]
    exact ⟨0, rfl, rfl, HF.out.1, HF.out.2⟩

theorem two_boxes (w : World) (o0 o1 : Obj) {W : World} (hW : (w.alloc o0).alloc o1 = W) : W.heap[w.heap.size]? = some o0 ∧ W.heap[w.heap.size + 1]? = some o1 ∧ W.heap.size = w.heap.size + 2 ∧ Below w.heap.size w W := by
  subst hW
  refine ⟨(Below.heap_alloc _ _ _ (by simp)).trans (heap_alloc_new w _), ?_, by simp, ((Below.refl _ _).alloc (Nat.le_refl _) _).alloc (by simp) _⟩
  have := heap_alloc_new (w.alloc o0) o1
  rwa [World.size_alloc] at this

set_option maxRecDepth 100000 in
set_option maxHeartbeats 4000000 in
theorem tGet_any (A : Option Addr) (c : Nat) (t : List ND) (p : List UInt8) (w : World) (hT : NodesP w (fun _ => True) A t) (hl : t.length ≤ 1099511627776 ∧ t.length ≤ c) (hz : SizeT t) (hp : p.length ≤ 137438953472) :
    Calls Tryd.prog 26 #[.slice A t.length c, encS p] w fun e w' => e = .returned (.tuple #[encS (getQ t p).1, .int .i64 (getQ t p).2]) ∧ Below w.heap.size w w' := by
  obtain ⟨W1, hW1⟩ : ∃ W1, (w.alloc (.cells #[.slice A t.length c] 23)).alloc (.cells #[.string ⟨#[]⟩] 9) = W1 := ⟨_, rfl⟩
  obtain ⟨k0, k1, ks, kb⟩ := two_boxes w _ _ hW1
  have y0 := cell_of_one k0
  have hTb := hT.below kb
  have eg := enters_of Tryd.func34 (by kernel_rfl) rfl
  obtain ⟨lb, hlb⟩ : ∃ lb : Array Value, lb = #[.pointer (some ⟨w.heap.size, 0, none⟩), .pointer (some ⟨w.heap.size + 1, 0, none⟩)] := ⟨_, rfl⟩
  have cA : Calls Tryd.prog 32 #[.slice A t.length c, encS p, .func (.func 34) #[] lb] W1 (AtPost (GetR w.heap.size (w.heap.size + 1) w (getQ t p))) := by
    rcases askQ_cases t p with ⟨ha, hok, hq⟩ | ⟨ha, -, -⟩ | ⟨ha, -⟩
    · refine at_ok 34 lb eg _ A c t p W1 hTb hl.1 hz hl.2 (by omega) hok hq fun W hb => ?_
      rw [hlb]
      exact getFn A c t p w.heap.size (w.heap.size + 1) w.heap.size w W (by omega) (heap_below' k0 hb) (heap_below' k1 hb) (kb.trans (hb.mono (by omega))) (hTb.below hb) hok ha
    · refine (at_err 34 lb A c t p 31 W1 hTb hl.1 hz hl.2 (by omega) ha (by decide)).mono ?_
      rintro e w' ⟨rfl, hb⟩
      exact getR_nil (getQ_ask ha (by decide)) (heap_below' k1 hb) (kb.trans (hb.mono (by omega)))
    · refine (at_err 34 lb A c t p 9 W1 hTb hl.1 hz hl.2 (by omega) ha (by decide)).mono ?_
      rintro e w' ⟨rfl, hb⟩
      exact getR_nil (getQ_ask ha (by decide)) (heap_below' k1 hb) (kb.trans (hb.mono (by omega)))
  rw [hlb] at cA
  generalize getQ t p = q at *
  clear hT hTb hz k0 k1 hlb eg
  go_enter Tryd.func26, Tryd.ntmps26
  go_wp2_with fail
  refine cA.mono ?_
  rintro e w2 ⟨n, rfl, rfl, hbx, hB⟩
  have e0 := cell_of_one hbx
  have f0 := free_of_one hbx
  have HO := hid hB
  have HS := hid (set_same hbx)
  clear cA hB hW1
  go_wp2
  first | rw [HS.out] | rw [show w.heap.size + 1 = w.heap.size + 1 from rfl]
  exact bodyPost_ret (v := .tuple #[encS q.1, .int .i64 q.2]) (by simp [results, Tryd.results26, go_sem, e0]) rfl ⟨rfl, HO.out⟩

def KindR (N rb : Nat) (w0 : World) (k : Int) (_n : Int) (W' : World) : Prop := W'.heap[rb]? = some (.cells #[.int .i64 k] 3 (0, 0)) ∧ Below N w0 W'
set_option maxHeartbeats 2000000 in
theorem kindFn (P : List UInt8) (wh K : Int) (rb N : Nat) (w0 W : World) (hN : N ≤ rb) (h4 : W.heap[rb]? = some (.cells #[.int .i64 0] 3 (0, 0))) (hB : Below N w0 W) :
    Calls Tryd.prog 33 #[.agg #[encS P, .int .i64 wh, .int .i64 K], .pointer (some ⟨rb, 0, none⟩)] W (AtPost (KindR N rb w0 K)) := by
  have hNW : N ≤ W.heap.size := by have := lt_of_block h4; omega
  obtain ⟨W1, hW1⟩ : ∃ W1, W.alloc (.cells #[encS P, .int .i64 wh, .int .i64 K] 51) = W1 := ⟨_, rfl⟩
  have hal : Below W.heap.size W W1 := by rw [← hW1]; exact (Below.refl _ _).alloc (Nat.le_refl _) _
  have hsp : W1.heap[W.heap.size]? = some (.cells #[encS P, .int .i64 wh, .int .i64 K] 51 (0, 0)) := by rw [← hW1]; exact heap_alloc_new _ _
  have g4 := heap_below' h4 hal
  have hB1 := hB.trans (hal.mono hNW)
  have x2 : W1.cell? ⟨W.heap.size, 2, none⟩ = some (.int .i64 K) := by simp [World.cell?, hsp]
  have e0 := cell_of_one g4; have f0 := free_of_one g4
  have HF := hid (And.intro (one_setCell (u := .int .i64 K) g4) (hB1.setCell (p := ⟨rb, 0, none⟩) hN (.int .i64 K)))
  clear h4 hB hsp g4 hB1
  go_enter Tryd.func33, Tryd.ntmps33
  go_wp2
  go_ret
  exact ⟨0, rfl, HF.out.1, HF.out.2⟩
set_option maxRecDepth 100000 in
set_option maxHeartbeats 4000000 in
theorem tKind_any (A : Option Addr) (c : Nat) (t : List ND) (p : List UInt8) (w : World) (hT : NodesP w (fun _ => True) A t) (hl : t.length ≤ 1099511627776 ∧ t.length ≤ c) (hz : SizeT t) (hp : p.length ≤ 137438953472) :
    Calls Tryd.prog 25 #[.slice A t.length c, encS p] w fun e w' => e = .returned (.int .i64 (kindQ t p)) ∧ Below w.heap.size w w' := by
  obtain ⟨W1, hW1⟩ : ∃ W1, w.alloc (.cells #[.int .i64 0] 3) = W1 := ⟨_, rfl⟩
  have kb : Below w.heap.size w W1 := by rw [← hW1]; exact (Below.refl _ _).alloc (Nat.le_refl _) _
  have k0 : W1.heap[w.heap.size]? = some (.cells #[.int .i64 0] 3 (0, 0)) := by rw [← hW1]; exact heap_alloc_new _ _
  have ks : W1.heap.size = w.heap.size + 1 := by rw [← hW1]; simp
  have hTb := hT.below kb
  have eg := enters_of Tryd.func33 (by kernel_rfl) rfl
  obtain ⟨lb, hlb⟩ : ∃ lb : Array Value, lb = #[.pointer (some ⟨w.heap.size, 0, none⟩)] := ⟨_, rfl⟩
  have cA : Calls Tryd.prog 32 #[.slice A t.length c, encS p, .func (.func 33) #[] lb] W1 (AtPost (KindR w.heap.size w.heap.size w (kindQ t p))) := by
    rcases askQ_cases t p with ⟨ha, hok, hq⟩ | ⟨ha, -, -⟩ | ⟨ha, -⟩
    · refine at_ok 33 lb eg _ A c t p W1 hTb hl.1 hz hl.2 (by omega) hok hq fun W hb => ?_
      rw [hlb, show kindQ t p = kindL t (pathL p) by unfold kindQ; rw [ha]; simp]
      exact kindFn (pathL p) _ _ w.heap.size w.heap.size w W (Nat.le_refl _) (heap_below' k0 hb) (kb.trans (hb.mono (by omega)))
    · refine (at_err 33 lb A c t p 31 W1 hTb hl.1 hz hl.2 (by omega) ha (by decide)).mono ?_
      rintro e w' ⟨rfl, hb⟩
      rw [show kindQ t p = 0 by unfold kindQ; rw [ha]; simp]
      exact ⟨31, rfl, heap_below' k0 hb, kb.trans (hb.mono (by omega))⟩
    · refine (at_err 33 lb A c t p 9 W1 hTb hl.1 hz hl.2 (by omega) ha (by decide)).mono ?_
      rintro e w' ⟨rfl, hb⟩
      rw [show kindQ t p = 0 by unfold kindQ; rw [ha]; simp]
      exact ⟨9, rfl, heap_below' k0 hb, kb.trans (hb.mono (by omega))⟩
  rw [hlb] at cA
  generalize kindQ t p = q at *
  clear hT hTb hz k0 hlb eg
  go_enter Tryd.func25, Tryd.ntmps25
  go_wp2_with fail
  refine cA.mono ?_
  rintro e w2 ⟨n, rfl, hbx, hB⟩
  have e0 := cell_of_one hbx
  have f0 := free_of_one hbx
  have HO := hid hB
  have HS := hid (set_same hbx)
  clear cA hB hW1
  go_wp2
  rw [HS.out]
  exact bodyPost_ret (v := .int .i64 q) (by simp [results, Tryd.results25, go_sem, e0]) rfl ⟨rfl, HO.out⟩
end Go.Proofs.YtnedjpopadkdeaaDoor
