/- tree.Remove, its caller. Conditions: sizes. -/
import Derived.Test.YtngllipfnbmpeaaPgS
namespace Go.Proofs.Ytngllipfnbmpeaa
open Go.RowKit
open Go.Lib (hid)

theorem three_boxes (w : World) (o0 o1 o2 : Obj) {W : World} (hW : ((w.alloc o0).alloc o1).alloc o2 = W) : W.heap[w.heap.size]? = some o0 ∧ W.heap[w.heap.size + 1]? = some o1 ∧ W.heap[w.heap.size + 2]? = some o2 ∧ W.heap.size = w.heap.size + 3 ∧ Below w.heap.size w W := by
  obtain ⟨h0, h1, hs, hb⟩ := two_boxes w o0 o1 rfl
  subst hW
  refine ⟨(Below.heap_alloc _ _ _ (by simp; omega)).trans h0, (Below.heap_alloc _ _ _ (by simp)).trans h1, ?_, by simp, hb.alloc (by simp; omega) _⟩
  have := heap_alloc_new ((w.alloc o0).alloc o1) o2
  rwa [World.size_alloc, World.size_alloc] at this
set_option maxRecDepth 100000 in
set_option maxHeartbeats 4000000 in
theorem tRemove_any (A : Option Addr) (c : Nat) (t : List ND) (p : List UInt8) (all : Bool) (w : World) (hT : NodesP w (fun _ => True) A t) (hl : t.length ≤ 1099511627776 ∧ t.length ≤ c) (hz : SizeT t) (hp : p.length ≤ 137438953472) :
    Calls Try.prog 11 #[.slice A t.length c, encS p, .bool all] w fun e w' => TellsN w (remQ t p all) e w' := by
  obtain ⟨W1, hW1⟩ : ∃ W1, ((w.alloc (.cells #[.slice A t.length c] 22)).alloc (.cells #[.bool all] 4)).alloc (.cells #[.slice none 0 0] 22) = W1 := ⟨_, rfl⟩
  obtain ⟨k0, k1, k2, ks, kb⟩ := three_boxes w _ _ _ hW1
  have y0 := cell_of_one k0
  have hTb := hT.below kb
  have eg := enters_of Try.func26 (by kernel_rfl) rfl
  obtain ⟨lb, hlb⟩ : ∃ lb : Array Value, lb = #[.pointer (some ⟨w.heap.size + 1, 0, none⟩), .pointer (some ⟨w.heap.size, 0, none⟩), .pointer (some ⟨w.heap.size + 2, 0, none⟩)] := ⟨_, rfl⟩
  have cA : Calls Try.prog 25 #[.slice A t.length c, encS p, .func (.func 26) #[] lb] W1 (AtPost (ClosR w.heap.size (w.heap.size + 2) w (remQ t p all))) := by
    rcases askQ_cases t p with ⟨ha, hok, hq⟩ | ⟨ha, -, -⟩ | ⟨ha, -⟩
    · refine at_ok 26 lb eg _ A c t p W1 hTb hl.1 hz hl.2 (by omega) hok hq fun W hb => ?_
      rw [hlb]
      exact removeFn A c t p all (w.heap.size + 1) w.heap.size (w.heap.size + 2) w.heap.size w W (by omega)
        (heap_below' k1 hb) (heap_below' k0 hb) (heap_below' k2 hb) (kb.trans (hb.mono (by omega)))
        (hT.frame fun g hg _ => ⟨by omega, (hb.block g (by omega)).trans (kb.block g hg)⟩) hok hz ha (by omega)
    · refine (at_err 26 lb A c t p 31 W1 hTb hl.1 hz hl.2 (by omega) ha (by decide)).mono ?_
      rintro e w' ⟨rfl, hb⟩
      exact closR_nil (by unfold remQ; rw [ha]; exact if_pos (by decide)) (heap_below' k2 hb) (kb.trans (hb.mono (by omega)))
    · refine (at_err 26 lb A c t p 9 W1 hTb hl.1 hz hl.2 (by omega) ha (by decide)).mono ?_
      rintro e w' ⟨rfl, hb⟩
      exact closR_nil (by unfold remQ; rw [ha]; exact if_pos (by decide)) (heap_below' k2 hb) (kb.trans (hb.mono (by omega)))
  rw [hlb] at cA
  generalize remQ t p all = q at *
  clear hT hTb hz k0 k1 k2 hlb eg
  go_enter Try.func11, Try.ntmps11
  go_wp2_with fail
  refine cA.mono ?_
  rintro e w2 ⟨n, rfl, rfl, a, c', hbx, hO, hB⟩
  have e0 := cell_of_one hbx
  have f0 := free_of_one hbx
  have HO := hid (And.intro hO hB)
  have HS := hid (set_same hbx)
  clear cA hO hB hW1
  go_wp2
  rw [show w.heap.size + 1 + 1 = w.heap.size + 2 from rfl, HS.out]
  exact bodyPost_ret (v := .tuple #[.slice a q.1.length c', .int .i64 q.2]) (by simp [results, Try.results11, go_sem, e0]) rfl ⟨a, c', rfl, HO.out.1, HO.out.2⟩
end Go.Proofs.Ytngllipfnbmpeaa
