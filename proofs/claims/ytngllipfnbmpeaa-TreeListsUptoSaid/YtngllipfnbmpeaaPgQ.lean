/- tree.written, tree.Put, tree.Add. Conditions: sizes. -/
import Derived.Test.YtngllipfnbmpeaaPgP
namespace Go.Proofs.Ytngllipfnbmpeaa
open Go.RowKit
open Go.Lib (hid)

/-- Four variables, made one behind the other. -/
theorem four_boxes (w : World) (o0 o1 o2 o3 : Obj) {W : World} (hW : (((w.alloc o0).alloc o1).alloc o2).alloc o3 = W) :
    W.heap[w.heap.size]? = some o0 ∧ W.heap[w.heap.size + 1]? = some o1 ∧ W.heap[w.heap.size + 2]? = some o2 ∧ W.heap[w.heap.size + 3]? = some o3 ∧ W.heap.size = w.heap.size + 4 ∧ Below w.heap.size w W := by
  subst hW
  refine ⟨?_, ?_, ?_, ?_, by simp, ((((Below.refl _ _).alloc (Nat.le_refl _) _).alloc (by simp) _).alloc (by simp; omega) _).alloc (by simp; omega) _⟩
  · exact (Below.heap_alloc _ _ _ (by simp; omega)).trans ((Below.heap_alloc _ _ _ (by simp; omega)).trans ((Below.heap_alloc _ _ _ (by simp)).trans (heap_alloc_new w _)))
  · have := heap_alloc_new (w.alloc o0) o1
    rw [World.size_alloc] at this
    exact (Below.heap_alloc _ _ _ (by simp)).trans ((Below.heap_alloc _ _ _ (by simp)).trans this)
  · have := heap_alloc_new ((w.alloc o0).alloc o1) o2
    rw [World.size_alloc, World.size_alloc] at this
    exact (Below.heap_alloc _ _ _ (by simp)).trans this
  · have := heap_alloc_new (((w.alloc o0).alloc o1).alloc o2) o3
    rw [World.size_alloc, World.size_alloc, World.size_alloc] at this
    exact this
theorem set_same {w : World} {b : Nat} {v : Value} {t : TypeId} (h : w.heap[b]? = some (.cells #[v] t (0, 0))) : w.setCell ⟨b, 0, none⟩ v = w := by
  have hh : (w.setCell ⟨b, 0, none⟩ v).heap = w.heap := by
    apply Array.ext_getElem?
    intro i
    by_cases e : i = b
    · subst e
      rw [one_setCell h, h]
    · exact Below.heap_setCell _ _ _ _ e
  calc w.setCell ⟨b, 0, none⟩ v = { w with heap := (w.setCell ⟨b, 0, none⟩ v).heap } := rfl
    _ = w := by rw [hh]
noncomputable def wrQ (t : List ND) (p y : List UInt8) : List ND × Int := if (askQ t p).2 ≠ 0 then ([], (askQ t p).2) else writtenQ t (pathL p) y
theorem wrQ_put (t : List ND) (p x : List UInt8) : wrQ t p x = putQ t p x := rfl

set_option maxRecDepth 100000 in
set_option maxHeartbeats 4000000 in
theorem written_any (g0 : Nat) (eg0 : ∀ args w, (callFunc g0 args).run Try.prog w = .ok (.enter g0 args) w) (k : List UInt8 → List UInt8) (hk : ∀ old W, Calls Try.prog g0 #[encS old] W fun e w' => e = .returned (encS (k old)) ∧ W = w') (hkl : ∀ old, (k old).length ≤ old.length)
    (A : Option Addr) (c : Nat) (t : List ND) (p x : List UInt8) (w : World) (hT : NodesP w (fun _ => True) A t) (hl : t.length ≤ 1099511627776) (hz : SizeT t) (hcap : t.length ≤ c) (hp : p.length ≤ 137438953472) (hx : x.length ≤ 137438953472) :
    Calls Try.prog 22 #[.slice A t.length c, encS p, encS x, .func (.func g0) #[] #[]] w fun e w' => TellsN w (wrQ t p (k (oldL t (pathL p)) ++ x)) e w' := by
  obtain ⟨W1, hW1⟩ : ∃ W1, (((w.alloc (.cells #[.slice A t.length c] 22)).alloc (.cells #[encS x] 9)).alloc (.cells #[.func (.func g0) #[] #[]] 48)).alloc (.cells #[.slice none 0 0] 22) = W1 := ⟨_, rfl⟩
  obtain ⟨k0, k1, k2, k3, ks, kb⟩ := four_boxes w _ _ _ _ hW1
  have y0 := cell_of_one k0
  have hpl := pathL_len p
  have hTb := hT.below kb
  have eg := enters_of Try.func47 (by kernel_rfl) rfl
  obtain ⟨lb, hlb⟩ : ∃ lb : Array Value, lb = #[.pointer (some ⟨w.heap.size, 0, none⟩), .pointer (some ⟨w.heap.size + 2, 0, none⟩), .pointer (some ⟨w.heap.size + 1, 0, none⟩), .pointer (some ⟨w.heap.size + 3, 0, none⟩)] := ⟨_, rfl⟩
  have cA : Calls Try.prog 25 #[.slice A t.length c, encS p, .func (.func 47) #[] lb] W1 (AtPost (ClosR w.heap.size (w.heap.size + 3) w (wrQ t p (k (oldL t (pathL p)) ++ x)))) := by
    rcases askQ_cases t p with ⟨ha, hok, hq⟩ | ⟨ha, -, -⟩ | ⟨ha, -⟩
    · have hw : wrQ t p (k (oldL t (pathL p)) ++ x) = writtenQ t (pathL p) (k (oldL t (pathL p)) ++ x) := by unfold wrQ; rw [ha]; simp
      rw [hw]
      refine at_ok 47 lb eg _ A c t p W1 hTb hl hz hcap (by omega) hok hq fun W hb => ?_
      rw [hlb]
      exact writtenFn g0 eg0 k hk hkl A c t (pathL p) x w.heap.size (w.heap.size + 2) (w.heap.size + 1) (w.heap.size + 3) w.heap.size w W (by omega) ⟨by omega, by omega⟩
        (heap_below' k0 hb) (heap_below' k2 hb) (heap_below' k1 hb) (heap_below' k3 hb) (kb.trans (hb.mono (by omega))) (hTb.below hb) hok hz hcap (path_path p) (pathL_ne p) (by omega) hx
    · refine (at_err 47 lb A c t p 31 W1 hTb hl hz hcap (by omega) ha (by decide)).mono ?_
      rintro e w' ⟨rfl, hb⟩
      exact closR_nil (by unfold wrQ; rw [ha]; exact if_pos (by decide)) (heap_below' k3 hb) (kb.trans (hb.mono (by omega)))
    · refine (at_err 47 lb A c t p 9 W1 hTb hl hz hcap (by omega) ha (by decide)).mono ?_
      rintro e w' ⟨rfl, hb⟩
      exact closR_nil (by unfold wrQ; rw [ha]; exact if_pos (by decide)) (heap_below' k3 hb) (kb.trans (hb.mono (by omega)))
  rw [hlb] at cA
  generalize wrQ t p (k (oldL t (pathL p)) ++ x) = q at *
  clear hT hTb hz hk hkl k0 k1 k2 k3 hlb eg eg0
  go_enter Try.func22, Try.ntmps22
  go_wp2_with fail
  refine cA.mono ?_
  rintro e w2 ⟨n, rfl, rfl, a, c', hbx, hO, hB⟩
  have e0 := cell_of_one hbx
  have f0 := free_of_one hbx
  have HO := hid (And.intro hO hB)
  have HS := hid (set_same hbx)
  clear cA hO hB hW1
  go_wp2
  rw [show w.heap.size + 1 + 1 + 1 = w.heap.size + 3 from rfl, HS.out]
  exact bodyPost_ret (v := .tuple #[.slice a q.1.length c', .int .i64 q.2]) (by simp [results, Try.results22, go_sem, e0]) rfl ⟨a, c', rfl, HO.out.1, HO.out.2⟩

set_option maxHeartbeats 1000000 in
theorem putFn (old : List UInt8) (w : World) : Calls Try.prog 23 #[encS old] w fun e w' => e = .returned (encS []) ∧ w = w' := by
  go_enter Try.func23, Try.ntmps23
  go_wp2
  go_ret
  exact ⟨rfl, rfl⟩
set_option maxHeartbeats 1000000 in
theorem addFn (old : List UInt8) (w : World) : Calls Try.prog 24 #[encS old] w fun e w' => e = .returned (encS old) ∧ w = w' := by
  go_enter Try.func24, Try.ntmps24
  go_wp2
  go_ret
  exact ⟨rfl, rfl⟩
set_option maxHeartbeats 1000000 in
theorem tPut_any (A : Option Addr) (c : Nat) (t : List ND) (p : List UInt8) (x : List UInt8) (w : World) (hT : NodesP w (fun _ => True) A t) (hl : t.length ≤ 1099511627776 ∧ t.length ≤ c) (hz : SizeT t) (hp : p.length ≤ 137438953472) (hx : x.length ≤ 137438953472) :
    Calls Try.prog 8 #[.slice A t.length c, encS p, encS x] w fun e w' => TellsN w (putQ t p x) e w' := by
  have cW := written_any 23 (enters_of Try.func23 (by kernel_rfl) rfl) (fun _ => []) putFn (fun _ => Nat.zero_le _) A c t p x w hT hl.1 hz hl.2 hp hx
  rw [List.nil_append, wrQ_put] at cW
  generalize putQ t p x = q at *
  clear hT hz
  go_enter Try.func8, Try.ntmps8
  go_wp2_with fail
  refine cW.mono ?_
  rintro e w1 ⟨a, c2, rfl, hO, hb⟩
  have HO := hid (And.intro hO hb)
  clear hb cW hO
  go_wp2_with fail
  go_ret2
  exact ⟨a, c2, rfl, HO.out.1, HO.out.2⟩
theorem addQ_wr (t : List ND) (p x : List UInt8) : addQ t p x = wrQ t p (oldL t (pathL p) ++ x) := by
  rw [wrQ_put]
  rcases askQ_cases t p with ⟨ha, _⟩ | ⟨ha, _⟩ | ⟨ha, _⟩
  · rcases kind_cases t (pathL p) with ⟨hk, -, hf⟩ | ⟨hk, -, n, hf, -⟩ | ⟨hk, -⟩
    · have hg : getQ t p = ([], 71) := by unfold getQ; rw [ha, if_neg (by simp), if_pos hk]
      unfold addQ oldL
      rw [hg, hf, if_neg (by simp)]
      rfl
    · have hg : getQ t p = (n.x, 0) := by unfold getQ; rw [ha, if_neg (by simp), if_neg (by rw [hk]; decide), if_neg (by rw [hk]; decide), hf]; rfl
      unfold addQ oldL
      rw [hg, hf, if_neg (by simp)]
      rfl
    · have hg : getQ t p = ([], 15) := by unfold getQ; rw [ha, if_neg (by simp), if_neg (by rw [hk]; decide), if_pos hk]
      unfold addQ
      rw [hg, if_pos (by simp)]
      unfold putQ
      rw [ha, if_neg (by simp), if_pos hk]
  · have hg : getQ t p = ([], 31) := getQ_ask ha (by decide)
    unfold addQ
    rw [hg, if_pos (by simp)]
    unfold putQ
    rw [ha, if_pos (by simp)]
  · have hg : getQ t p = ([], 9) := getQ_ask ha (by decide)
    unfold addQ
    rw [hg, if_pos (by simp)]
    unfold putQ
    rw [ha, if_pos (by simp)]
set_option maxHeartbeats 1000000 in
theorem tAdd_any (A : Option Addr) (c : Nat) (t : List ND) (p : List UInt8) (x : List UInt8) (w : World) (hT : NodesP w (fun _ => True) A t) (hl : t.length ≤ 1099511627776 ∧ t.length ≤ c) (hz : SizeT t) (hp : p.length ≤ 137438953472) (hx : x.length ≤ 137438953472) :
    Calls Try.prog 10 #[.slice A t.length c, encS p, encS x] w fun e w' => TellsN w (addQ t p x) e w' := by
  have cW := written_any 24 (enters_of Try.func24 (by kernel_rfl) rfl) (fun y => y) addFn (fun _ => Nat.le_refl _) A c t p x w hT hl.1 hz hl.2 hp hx
  rw [← addQ_wr] at cW
  generalize addQ t p x = q at *
  clear hT hz
  go_enter Try.func10, Try.ntmps10
  go_wp2_with fail
  refine cW.mono ?_
  rintro e w1 ⟨a, c2, rfl, hO, hb⟩
  have HO := hid (And.intro hO hb)
  clear hb cW hO
  go_wp2_with fail
  go_ret2
  exact ⟨a, c2, rfl, HO.out.1, HO.out.2⟩
end Go.Proofs.Ytngllipfnbmpeaa
