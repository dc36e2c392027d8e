/- The program's each over octets, written into a text; Texts. Conditions: sizes. -/
import Derived.Test.YtchnopfnjkbelaaDoorFlX
import Derived.Test.YtchnopfnjkbelaaDoorFldD
namespace Go.Proofs.YtchnopfnjkbelaaDoor
open Go.RowKit
open Go.Lib (hid)

/-- each over octets, each written into a text. -/
theorem addAll_any (B b : Nat) (l : List UInt8) (A : Option Addr) (c : Nat) (ch : List Oc) (w : World) (hB : B ≤ w.heap.size) (hO : OcsP w (fun g => g < B) A ch) (h : TxB B b l w) (hn : l.length + ch.length ≤ 1099511627776) :
    Calls Tryd.prog 24 #[.slice A ch.length c, .func (.func 25) #[.pointer (some ⟨b, 0, none⟩)] #[]] w fun e w' => e = .returned (.tuple #[]) ∧ TxB B b (l ++ ch.map (·.1)) w' ∧ Below B w w' := by
  refine (eachC_any 25 (.pointer (some ⟨b, 0, none⟩)) (enters_of Tryd.func25 (by kernel_rfl) rfl) (fun k W => TxB B b (l ++ (ch.take k).map (·.1)) W ∧ Below B w W) A c ch w (by omega) ⟨by simpa using h, Below.refl _ _⟩ (fun k W hI => (hO.frame (w' := W) (Q := fun _ => True) fun g hg hq => ⟨trivial, hI.2.block g hq⟩)) (fun k W W' hI hb => ⟨hI.1.below hb, hI.2.trans (hb.mono (Nat.le_trans hB hI.2.size))⟩) fun k hk W hI => ?_).mono ?_
  · obtain ⟨⟨x, q⟩, hx⟩ : ∃ y, ch[k] = y := ⟨_, rfl⟩
    rw [hx]
    have hl : (l ++ (ch.take k).map (·.1)).length + 1 ≤ 140737488355328 := by
      rw [List.length_append, List.length_map, List.length_take]; omega
    refine (add_any B b _ x q W hI.1 hl (Nat.le_trans hB hI.2.size)).mono ?_
    rintro e W' ⟨rfl, a, b⟩
    refine ⟨rfl, ?_, hI.2.trans b⟩
    rw [List.take_succ_eq_append_getElem hk, List.map_append, ← List.append_assoc, hx]
    exact a
  · rintro e W' ⟨rfl, a, b⟩
    rw [List.take_length] at a
    exact ⟨rfl, a, b⟩

set_option maxRecDepth 100000 in
set_option maxHeartbeats 4000000 in
theorem texts_any (A : Option Addr) (c : Nat) (ls : List (List Oc)) (w : World) (hF : FldsP w (fun _ => True) (fun _ => True) A ls) (hn : ls.length ≤ 1099511627776) (hm : ∀ l ∈ ls, l.length ≤ 549755813888) :
    Calls Tryd.prog 14 #[.slice A ls.length c] w fun e w' => ∃ a c', e = .returned (.slice a (textsF ls).length c') ∧ w'.ownsRow w.heap.size 9 1 (.slice a (textsF ls).length c') (textsF ls).length ((textsF ls).map encS) ∧ Below w.heap.size w w' := by
  obtain ⟨i0, hi, hz0, hz1, hz2⟩ := info_parts info_str
  go_enter Tryd.func14, Tryd.ntmps14
  go_wp2
  go_loopw [3, 9] (fun v vi wr => ∃ (k : Nat) (ys : List (List UInt8)) (a : Option Addr) (c' : Nat), k ≤ ls.length ∧ vi = .int .i64 k ∧ v = .slice a ys.length c' ∧ Hid (ys = textsF (ls.take k)) ∧ wr.ownsRow w.heap.size 9 1 (.slice a ys.length c') ys.length (ys.map encS) ∧ Below w.heap.size w wr) (fun _ vi _ => ls.length - (intOf vi).toNat)
  case atStart => exact ⟨0, [], none, 0, Nat.zero_le _, rfl, rfl, hid rfl, World.ownsRow_nil _ _ _ _, Below.refl _ _⟩
  case round =>
    obtain ⟨k, ys, a, c', hk, rfl, rfl, HY, hR, hB⟩ := hrel
    have hyl : ys.length ≤ k := by
      rw [HY.out]
      unfold textsF
      rw [List.length_map]
      exact List.length_take_le _ _
    by_cases hlt : k < ls.length
    · obtain ⟨g, o, B, cc, rfl, -, c0, hcc, hO⟩ := (hF.below hB) k hlt
      have HS := hid (textsF_succ ls k hlt)
      rw [← HY.out] at HS
      have HK := hid (show k + 1 ≤ ls.length by omega)
      have hl := hm _ (List.getElem_mem hlt)
      generalize ls[k] = x at *
      obtain ⟨W2, hW2⟩ : ∃ W2, wr.alloc (.cells #[.pointer none, .slice none 0 0] 58) = W2 := ⟨_, rfl⟩
      have hal2 : Below wr.heap.size wr W2 := by rw [← hW2]; exact (Below.refl _ _).alloc (Nat.le_refl _) _
      have hbx : W2.heap[wr.heap.size]? = some (.cells #[.pointer none, .slice none 0 0] 58 (0, 0)) := by rw [← hW2]; exact heap_alloc_new _ _
      have cE := addAll_any wr.heap.size wr.heap.size [] B cc x W2 hal2.size (hO.frame (w' := W2) (Q := fun g => g < wr.heap.size) fun g hg _ => ⟨hg, hal2.block g hg⟩) (.inl ⟨rfl, Nat.le_refl _, hbx⟩) (by simp; omega)
      have cS := fun W l (h : TxB wr.heap.size wr.heap.size l W) => str_any _ _ l W h
      rw [List.nil_append] at cE
      have hs := hB.size
      have HBR := hid (And.intro hB (And.intro hR hal2))
      have hyl2 : ys.length + 1 ≤ 1099511627776 := by omega
      have hxl : (x.map (·.1)).length = x.length := List.length_map _
      generalize x.map (·.1) = y at *
      clear hbx hF hO hal2 hR hB HY hm hcc
      go_wp2_with fail
      refine cE.mono ?_
      rintro e w3 ⟨rfl, hT3, hb3⟩
      have cS3 := cS w3 y hT3
      have HB3 := hid (HBR.out.2.2.trans hb3)
      clear hT3 hb3 cE cS hxl
      go_wp2_with fail
      refine cS3.mono ?_
      rintro e w4 ⟨rfl, hb4⟩
      have hb4' := HB3.out.trans hb4
      have hB4 := HBR.out.1.trans (hb4'.mono hs)
      have hR4 := own_below HBR.out.2.1 hb4'
      have hs4 := hB4.size
      clear hb4 hb4' cS3
      go_wp2_with (at_builtin; refine wpList_append_own _ rfl _ _ 32 rfl w.heap.size 9 i0 _ 1 16 Tryd.underlying32 hi hz0 hz1 hz2 rfl (by decide) _ _ _ rfl (World.ownsRow.alloc (w := w4) hR4 _) ⟨w4.heap.size, 0, none⟩ 1 1 [encS y] rfl rfl (World.news_of_block (cs := #[encS y]) (t := 9) (fr := (0, 0)) (heap_alloc_new w4 _)) (by intro u hu; simp at hu; subst hu; rfl) (by unfold maxLen; omega) (by omega) (by simp; omega) ?_; intro v8 w8 hown8 hg8 _)
      obtain ⟨g8, c8, rfl⟩ := ownsRow_succ hown8
      have HR := hid (show w8.ownsRow w.heap.size 9 1 (.slice (some ⟨g8, 0, none⟩) (ys ++ [y]).length c8) (ys ++ [y]).length ((ys ++ [y]).map encS) by rw [List.length_append, List.map_append]; exact hown8)
      have HB8 : Hid (Below w.heap.size w w8) := hid ((hB4.alloc hs4 _).grown hg8 (by simp; omega) (fun j e => (hR4.lt j e).1))
      clear hown8 hg8 hR4 hB4
      go_wp2_with fail
      go_roundw
      case rel => exact ⟨k + 1, ys ++ [y], some ⟨g8, 0, none⟩, c8, HK.out, by go_num, by simp, hid HS.out.symm, HR.out, HB8.out⟩
      case measure => simp [intOf]; omega
    · obtain rfl : k = ls.length := by omega
      rw [List.take_length] at HY
      have HE := hid HY.out.symm
      have HR := hid (And.intro hR hB)
      clear hR hB HY hF hm
      go_wp2
      go_ret
      rw [HE.out]
      exact ⟨a, c', rfl, HR.out.1, HR.out.2⟩
end Go.Proofs.YtchnopfnjkbelaaDoor
