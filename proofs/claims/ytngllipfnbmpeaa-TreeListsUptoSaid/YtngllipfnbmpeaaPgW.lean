/- tree.List, its caller. Conditions: sizes. -/
import Derived.Test.YtngllipfnbmpeaaPgV
namespace Go.Proofs.Ytngllipfnbmpeaa
open Go.RowKit
open Go.Lib (hid)

theorem listQ_ask {t : List ND} {p : List UInt8} {f : Int} (ha : askQ t p = ([], f)) (hf : f ≠ 0) : listQ t p = ([], f) := by
  unfold listQ
  rw [ha]
  exact if_pos hf
set_option maxRecDepth 100000 in
set_option maxHeartbeats 4000000 in
theorem tList_any (A : Option Addr) (c : Nat) (t : List ND) (p : List UInt8) (w : World) (hT : NodesP w (fun _ => True) A t) (hl : t.length ≤ 1099511627776 ∧ t.length ≤ c) (hz : SizeT t) (hp : p.length ≤ 137438953472) :
    Calls Try.prog 16 #[.slice A t.length c, encS p] w fun e w' => TellsT w (listQ t p) e w' := by
  obtain ⟨W1, hW1⟩ : ∃ W1, (w.alloc (.cells #[.slice A t.length c] 22)).alloc (.cells #[.slice none 0 0] 36) = W1 := ⟨_, rfl⟩
  obtain ⟨k0, k1, ks, kb⟩ := two_boxes w _ _ hW1
  have y0 := cell_of_one k0
  have hTb := hT.below kb
  have eg := enters_of Try.func39 (by kernel_rfl) rfl
  obtain ⟨lb, hlb⟩ : ∃ lb : Array Value, lb = #[.pointer (some ⟨w.heap.size, 0, none⟩), .pointer (some ⟨w.heap.size + 1, 0, none⟩)] := ⟨_, rfl⟩
  have cA : Calls Try.prog 25 #[.slice A t.length c, encS p, .func (.func 39) #[] lb] W1 (AtPost (ListR w.heap.size (w.heap.size + 1) w (listQ t p))) := by
    rcases askQ_cases t p with ⟨ha, hok, hq⟩ | ⟨ha, -, -⟩ | ⟨ha, -⟩
    · refine at_ok 39 lb eg _ A c t p W1 hTb hl.1 hz hl.2 (by omega) hok hq fun W hb => ?_
      rw [hlb]
      exact listFn A c t p w.heap.size (w.heap.size + 1) w.heap.size w W (by omega) (heap_below' k0 hb) (heap_below' k1 hb) (kb.trans (hb.mono (by omega)))
        (hT.frame fun g hg _ => ⟨by omega, (hb.block g (by omega)).trans (kb.block g hg)⟩) hok hz ha hp
    · refine (at_err 39 lb A c t p 31 W1 hTb hl.1 hz hl.2 (by omega) ha (by decide)).mono ?_
      rintro e w' ⟨rfl, hb⟩
      exact listR_nil (listQ_ask ha (by decide)) (heap_below' k1 hb) (kb.trans (hb.mono (by omega)))
    · refine (at_err 39 lb A c t p 9 W1 hTb hl.1 hz hl.2 (by omega) ha (by decide)).mono ?_
      rintro e w' ⟨rfl, hb⟩
      exact listR_nil (listQ_ask ha (by decide)) (heap_below' k1 hb) (kb.trans (hb.mono (by omega)))
  rw [hlb] at cA
  generalize listQ t p = q at *
  clear hT hTb hz k0 k1 hlb eg
  go_enter Try.func16, Try.ntmps16
  go_wp2_with fail
  refine cA.mono ?_
  rintro e w2 ⟨n, rfl, rfl, a, c', hbx, hO, hB⟩
  have e0 := cell_of_one hbx
  have f0 := free_of_one hbx
  have HO := hid (And.intro hO hB)
  have HS := hid (set_same hbx)
  clear cA hO hB hW1
  go_wp2
  rw [show w.heap.size + 1 = w.heap.size + 1 from rfl, HS.out]
  exact bodyPost_ret (v := .tuple #[.slice a q.1.length c', .int .i64 q.2]) (by simp [results, Try.results16, go_sem, e0]) rfl ⟨a, c', rfl, HO.out.1, HO.out.2⟩
end Go.Proofs.Ytngllipfnbmpeaa
