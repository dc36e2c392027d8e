/- What the statement of Own13Said leans on, part 8: LyJ, LyK, LyL. Conditions: each theorem's own. -/
import Derived.Test.YtialepcdbpofkaaGreatKOG
namespace Go.Proofs.YtialepcdbpofkaaGreat
open Go.RowKit
open Go.Lib (hid)
theorem want_res (l : List (List UInt8)) (s : ByteArray) (bash : Bool) (p d : Nat) (hs : s.size ≤ 281474976710656) (hp : p ≤ s.size) (hlc : l.length ≤ 1099511627776) :
    (∃ x, x ∈ l ∧ p + x.length ≤ s.size ∧ ∀ (B : Nat) (A : Option Addr) (c : Nat) (w : World), LRd w B s bash p d → TextsP w (fun _ => True) A l → Calls Tryz.prog 68 #[.pointer (some ⟨B, 0, none⟩), .slice A l.length c] w fun e w' => e = .returned (encS x) ∧ KF (fun k => k = B) w w' ∧ LRd w' B s bash (p + x.length) d) ∨
    ∃ (e0 : Fe) (q : Nat), e0.e ≠ 0 ∧ ∀ (B : Nat) (A : Option Addr) (c : Nat) (w : World), LRd w B s bash p d → TextsP w (fun _ => True) A l → Calls Tryz.prog 68 #[.pointer (some ⟨B, 0, none⟩), .slice A l.length c] w fun e w' => e = .panicked [faultL e0 q] ∧ Below w.heap.size w w' := by
  cases hf : l.find? (fun x => Lib.hasPrefix (s.data.toList.drop p) x) with
  | some x =>
    have hx := hasPre_len (List.find?_some hf)
    rw [List.length_drop, len_toList] at hx
    exact .inl ⟨x, List.mem_of_find?_eq_some hf, by omega, fun B A c w hr hT => want_ok s bash p d A c l x hs hp hlc B w hr hT hf⟩
  | none =>
    refine .inr ?_
    by_cases hy : (l.find? (fun x => Lib.hasPrefix x (s.data.toList.drop p))).isSome = true
    · refine ⟨8, s.size, by decide, fun B A c w hr hT => ?_⟩
      have h := want_err s bash p d A c l hs hp hlc B w hr hT hf
      rw [if_pos hy] at h
      exact h
    · refine ⟨33, p, by decide, fun B A c w hr hT => ?_⟩
      have h := want_err s bash p d A c l hs hp hlc B w hr hT hf
      rw [if_neg hy] at h
      exact h
def LenPost (B : Nat) (s : ByteArray) (bash : Bool) (p' d : Nat) (w : World) (op : List UInt8) (e : Ending) (w' : World) : Prop := e = .returned (encS op) ∧ KF (fun k => k = B) w w' ∧ LRd w' B s bash p' d
def WantOk (s : ByteArray) (bash : Bool) (p d : Nat) (x : List UInt8) (p' : Nat) : Prop := ∀ (B : Nat) (w : World), LRd w B s bash p d → ∀ g, w.heap[g]? = some (.cells #[encS x] 9 (0, 0)) → Calls Tryz.prog 68 #[.pointer (some ⟨B, 0, none⟩), .slice (some ⟨g, 0, none⟩) 1 1] w fun e w' => e = .returned (encS x) ∧ KF (fun k => k = B) w w' ∧ LRd w' B s bash p' d
def WantBad (s : ByteArray) (bash : Bool) (p d : Nat) (x : List UInt8) (e0 : Fe) (q : Nat) : Prop := ∀ (B : Nat) (w : World), LRd w B s bash p d → ∀ g, w.heap[g]? = some (.cells #[encS x] 9 (0, 0)) → Calls Tryz.prog 68 #[.pointer (some ⟨B, 0, none⟩), .slice (some ⟨g, 0, none⟩) 1 1] w fun e w' => e = .panicked [faultL e0 q] ∧ Below w.heap.size w w'
theorem want1_res (x : List UInt8) (s : ByteArray) (bash : Bool) (p d : Nat) (hs : s.size ≤ 281474976710656) (hp : p ≤ s.size) : (p + x.length ≤ s.size ∧ WantOk s bash p d x (p + x.length)) ∨ ∃ e0 q, e0.e ≠ 0 ∧ WantBad s bash p d x e0 q := by
  by_cases hx : Lib.hasPrefix (s.data.toList.drop p) x = true
  · have hl := hasPre_len hx
    rw [List.length_drop, len_toList] at hl
    exact .inl ⟨by omega, fun B w hr g hg => want1_ok x s bash p d hs hp B g w hr hg hx⟩
  · obtain ⟨e0, q, h1, h2⟩ := want1_err x s bash p d hs hp (by simpa using hx)
    exact .inr ⟨e0, q, h1, fun B w hr g hg => h2 B g w hr hg⟩
set_option maxRecDepth 100000 in
set_option maxHeartbeats 4000000 in
theorem length_ok1 (s : ByteArray) (bash : Bool) (p d p' : Nat) (nm : List UInt8) (hnm : nm.length ≤ 281474976710656) (hext : bash = false ∨ nameL nm = false) (hW : WantOk s bash p d [125] p') (B : Nat) (w : World) (hr : LRd w B s bash p d) :
    Calls Tryz.prog 71 #[.pointer (some ⟨B, 0, none⟩), encS nm] w (LenPost B s bash p' d w [108, 101, 110]) := by
  have hb1 : Below w.heap.size w (w.alloc (.cells #[encS [125]] 9)) := (Below.refl _ _).alloc (Nat.le_refl _) _
  have hr1 := hr.below hb1
  have c2 := hr1.c2
  have cN := fun W => name_any ⟨nm.toArray⟩ W (by unfold maxLen; simp [ByteArray.size]; omega)
  have hc := hW B _ hr1 w.heap.size (heap_alloc_new w _)
  have cC := fun W => clone_any [108, 101, 110] (by simp) W
  have HK := hid ((KF.refl (fun k => k = B) w).alloc (.cells #[encS [125]] 9))
  clear hW hr hb1 hr1
  have h2 : bash = false ∨ (bash = true ∧ nameL nm = false) := by
    rcases hext with h | h
    · exact .inl h
    · cases bash
      · exact .inl rfl
      · exact .inr ⟨rfl, h⟩
  rcases h2 with rfl | ⟨rfl, hn⟩
  · go_enter Tryz.func71, Tryz.ntmps71
    go_wp2_with (first
      | (go_at_call 68; (refine hc.mono ?_); rintro e w2 ⟨rfl, hk2, hr2⟩)
      | (go_at_call 32; (refine (cC _).mono ?_); rintro e w3 ⟨rfl, hb3⟩))
    go_ret
    exact ⟨rfl, (HK.out.trans hk2 (fun g hg => .inl hg)).trans (KF.of_below (F := fun _ => False) hb3) (fun _ h => h.elim), hr2.below hb3⟩
  · have cN1 : ∀ W, Calls Tryz.prog 76 #[encS nm] W fun e w' => e = .returned (.bool false) ∧ W = w' := fun W => by
      have := cN W
      rw [show (⟨nm.toArray⟩ : ByteArray).data.toList = nm by simp, hn] at this
      exact this
    clear cN hn
    go_enter Tryz.func71, Tryz.ntmps71
    go_wp2_with (first
      | (go_at_call 76; (refine (cN1 _).mono ?_); rintro e w1 ⟨rfl, hw⟩; subst hw)
      | (go_at_call 68; (refine hc.mono ?_); rintro e w2 ⟨rfl, hk2, hr2⟩)
      | (go_at_call 32; (refine (cC _).mono ?_); rintro e w3 ⟨rfl, hb3⟩))
    go_ret
    exact ⟨rfl, (HK.out.trans hk2 (fun g hg => .inl hg)).trans (KF.of_below (F := fun _ => False) hb3) (fun _ h => h.elim), hr2.below hb3⟩
set_option maxRecDepth 100000 in
set_option maxHeartbeats 4000000 in
theorem length_bad1 (s : ByteArray) (bash : Bool) (p d : Nat) (e0 : Fe) (q : Nat) (nm : List UInt8) (hnm : nm.length ≤ 281474976710656) (hext : bash = false ∨ nameL nm = false) (hW : WantBad s bash p d [125] e0 q) (B : Nat) (w : World) (hr : LRd w B s bash p d) :
    Calls Tryz.prog 71 #[.pointer (some ⟨B, 0, none⟩), encS nm] w (PartBad B w e0 q) := by
  have hb1 : Below w.heap.size w (w.alloc (.cells #[encS [125]] 9)) := (Below.refl _ _).alloc (Nat.le_refl _) _
  have hr1 := hr.below hb1
  have c2 := hr1.c2
  have cN := fun W => name_any ⟨nm.toArray⟩ W (by unfold maxLen; simp [ByteArray.size]; omega)
  have hc := hW B _ hr1 w.heap.size (heap_alloc_new w _)
  have HK := hid ((KF.refl (fun k => k = B) w).alloc (.cells #[encS [125]] 9))
  clear hW hr hb1 hr1
  have h2 : bash = false ∨ (bash = true ∧ nameL nm = false) := by
    rcases hext with h | h
    · exact .inl h
    · cases bash
      · exact .inl rfl
      · exact .inr ⟨rfl, h⟩
  rcases h2 with rfl | ⟨rfl, hn⟩
  · go_enter Tryz.func71, Tryz.ntmps71
    go_wp2_with (go_at_call 68; (refine hc.mono ?_); rintro e w2 ⟨rfl, hb2⟩)
    exact ⟨rfl, rfl, HK.out.trans (KF.of_below (F := fun _ => False) hb2) (fun _ h => h.elim)⟩
  · have cN1 : ∀ W, Calls Tryz.prog 76 #[encS nm] W fun e w' => e = .returned (.bool false) ∧ W = w' := fun W => by
      have := cN W
      rw [show (⟨nm.toArray⟩ : ByteArray).data.toList = nm by simp, hn] at this
      exact this
    clear cN hn
    go_enter Tryz.func71, Tryz.ntmps71
    go_wp2_with (first
      | (go_at_call 76; (refine (cN1 _).mono ?_); rintro e w1 ⟨rfl, hw⟩; subst hw)
      | (go_at_call 68; (refine hc.mono ?_); rintro e w2 ⟨rfl, hb2⟩))
    exact ⟨rfl, rfl, HK.out.trans (KF.of_below (F := fun _ => False) hb2) (fun _ h => h.elim)⟩
def endsL : List (List UInt8) := [[125], [91, 64, 93]]
set_option maxRecDepth 100000 in
set_option maxHeartbeats 4000000 in
theorem length_a (s : ByteArray) (p d : Nat) (nm : List UInt8) (hnm : nm.length ≤ 281474976710656) (hn : nameL nm = true) (p1 : Nat) (hW : ∀ (B : Nat) (A : Option Addr) (c : Nat) (w : World), LRd w B s true p d → TextsP w (fun _ => True) A endsL → Calls Tryz.prog 68 #[.pointer (some ⟨B, 0, none⟩), .slice A 2 c] w fun e w' => e = .returned (encS [125]) ∧ KF (fun k => k = B) w w' ∧ LRd w' B s true p1 d) (B : Nat) (w : World) (hr : LRd w B s true p d) :
    Calls Tryz.prog 71 #[.pointer (some ⟨B, 0, none⟩), encS nm] w (LenPost B s true p1 d w [108, 101, 110]) := by
  obtain ⟨i0, hi, hz0, hz1, hz2⟩ := info_parts info_str
  have hBw := hr.lt
  have hown := (World.ownsRow_lit (e := 9) (size := 1) (base := w.heap.size) w #[encS [125]] 1 (Nat.le_refl _) (by decide) rfl).alloc (.cells #[encS [91, 64, 93]] 9)
  have hr0 := hr.below ((Below.refl _ w).alloc (Nat.le_refl _) (.cells #[encS [125]] 9))
  have hr1 : LRd ((w.alloc (.cells #[encS [125]] 9)).alloc (.cells #[encS [91, 64, 93]] 9)) B s true p d := hr0.below ((Below.refl _ _).alloc (Nat.le_refl _) _)
  have c2 := hr0.c2
  have hnw := heap_alloc_new (w.alloc (.cells #[encS [125]] 9)) (.cells #[encS [91, 64, 93]] 9)
  simp only [World.size_alloc] at hnw
  have hone : ∀ u ∈ [encS [91, 64, 93]], u.oneCell' = true := fun u hu => by
    rw [List.mem_singleton.1 hu]; rfl
  have H1 : 1 + 1 ≤ maxLen := by decide
  have H2 : (1 + 1) * 16 ≤ 140737488355328 := by decide
  have H3 : w.heap.size ≤ ((w.alloc (.cells #[encS [125]] 9)).alloc (.cells #[encS [91, 64, 93]] 9)).heap.size := by simp; omega
  have cN1 : ∀ W, Calls Tryz.prog 76 #[encS nm] W fun e w' => e = .returned (.bool true) ∧ W = w' := fun W => by
    have := name_any ⟨nm.toArray⟩ W (by unfold maxLen; simp [ByteArray.size]; omega)
    rw [show (⟨nm.toArray⟩ : ByteArray).data.toList = nm by simp, hn] at this
    exact this
  have HX : Hid (∀ W (ap : Option Addr) (cp : Nat), ((w.alloc (.cells #[encS [125]] 9)).alloc (.cells #[encS [91, 64, 93]] 9)).grownBy W (some w.heap.size) → W.ownsRow w.heap.size 9 1 (.slice ap 2 cp) 2 [encS [125], encS [91, 64, 93]] → KF (fun k => k = B) w W ∧ LRd W B s true p d ∧ TextsP W (fun _ => True) ap endsL) := hid fun W ap cp hg ho => by
    refine ⟨(((KF.refl (fun k => k = B) w).alloc _).alloc _).grown hg (fun k hk => .inr (by cases hk; exact Nat.le_refl _)), (hg.block B hr1.lt (fun e => by cases e; omega)).trans hr1, (TextsP.of_own (ls := endsL) ho).any⟩
  clear hn hr hr0 hr1
  go_enter Tryz.func71, Tryz.ntmps71
  go_wp2_with (first
    | (go_at_call 76; (with_reducible refine (cN1 _).mono ?_); rintro e w1 ⟨rfl, hw⟩; subst hw)
    | (at_builtin; refine wpList_append_own _ rfl _ _ 40 rfl w.heap.size 9 i0 _ 1 16 Tryz.underlying40 hi hz0 hz1 hz2 rfl (by decide) _ _ _ rfl hown ⟨w.heap.size + 1, 0, none⟩ 1 1 [encS [91, 64, 93]] rfl rfl (World.news_of_block hnw) hone H1 H2 H3 ?_; intro v' W ho2 hg hat; obtain ⟨ap, cp, rfl, -⟩ := own_form ho2; obtain ⟨hkW, hrW, hTW⟩ := HX.out W ap cp hg ho2; have HKW := hid hkW; clear hat)
    | (go_at_call 68; (with_reducible refine (hW B ap cp W hrW hTW).mono ?_); rintro e w2 ⟨rfl, hk2, hr2⟩)
    | (go_at_call 32; (with_reducible refine (clone_any [108, 101, 110] (by simp) _).mono ?_); rintro e w3 ⟨rfl, hb3⟩))
  go_ret
  exact ⟨rfl, (HKW.out.trans hk2 (fun g hg => .inl hg)).trans (KF.of_below (F := fun _ => False) hb3) (fun _ h => h.elim), hr2.below hb3⟩
set_option maxRecDepth 100000 in
set_option maxHeartbeats 4000000 in
theorem length_b (s : ByteArray) (p d : Nat) (nm : List UInt8) (hnm : nm.length ≤ 281474976710656) (hn : nameL nm = true) (p1 p2 : Nat) (hW : ∀ (B : Nat) (A : Option Addr) (c : Nat) (w : World), LRd w B s true p d → TextsP w (fun _ => True) A endsL → Calls Tryz.prog 68 #[.pointer (some ⟨B, 0, none⟩), .slice A 2 c] w fun e w' => e = .returned (encS [91, 64, 93]) ∧ KF (fun k => k = B) w w' ∧ LRd w' B s true p1 d) (hW2 : WantOk s true p1 d [125] p2) (B : Nat) (w : World) (hr : LRd w B s true p d) :
    Calls Tryz.prog 71 #[.pointer (some ⟨B, 0, none⟩), encS nm] w (LenPost B s true p2 d w [108, 101, 110, 91, 64, 93]) := by
  obtain ⟨i0, hi, hz0, hz1, hz2⟩ := info_parts info_str
  have hBw := hr.lt
  have hown := (World.ownsRow_lit (e := 9) (size := 1) (base := w.heap.size) w #[encS [125]] 1 (Nat.le_refl _) (by decide) rfl).alloc (.cells #[encS [91, 64, 93]] 9)
  have hr0 := hr.below ((Below.refl _ w).alloc (Nat.le_refl _) (.cells #[encS [125]] 9))
  have hr1 : LRd ((w.alloc (.cells #[encS [125]] 9)).alloc (.cells #[encS [91, 64, 93]] 9)) B s true p d := hr0.below ((Below.refl _ _).alloc (Nat.le_refl _) _)
  have c2 := hr0.c2
  have hnw := heap_alloc_new (w.alloc (.cells #[encS [125]] 9)) (.cells #[encS [91, 64, 93]] 9)
  simp only [World.size_alloc] at hnw
  have hone : ∀ u ∈ [encS [91, 64, 93]], u.oneCell' = true := fun u hu => by
    rw [List.mem_singleton.1 hu]; rfl
  have H1 : 1 + 1 ≤ maxLen := by decide
  have H2 : (1 + 1) * 16 ≤ 140737488355328 := by decide
  have H3 : w.heap.size ≤ ((w.alloc (.cells #[encS [125]] 9)).alloc (.cells #[encS [91, 64, 93]] 9)).heap.size := by simp; omega
  have cN1 : ∀ W, Calls Tryz.prog 76 #[encS nm] W fun e w' => e = .returned (.bool true) ∧ W = w' := fun W => by
    have := name_any ⟨nm.toArray⟩ W (by unfold maxLen; simp [ByteArray.size]; omega)
    rw [show (⟨nm.toArray⟩ : ByteArray).data.toList = nm by simp, hn] at this
    exact this
  have HX : Hid (∀ W (ap : Option Addr) (cp : Nat), ((w.alloc (.cells #[encS [125]] 9)).alloc (.cells #[encS [91, 64, 93]] 9)).grownBy W (some w.heap.size) → W.ownsRow w.heap.size 9 1 (.slice ap 2 cp) 2 [encS [125], encS [91, 64, 93]] → KF (fun k => k = B) w W ∧ LRd W B s true p d ∧ TextsP W (fun _ => True) ap endsL) := hid fun W ap cp hg ho => by
    refine ⟨(((KF.refl (fun k => k = B) w).alloc _).alloc _).grown hg (fun k hk => .inr (by cases hk; exact Nat.le_refl _)), (hg.block B hr1.lt (fun e => by cases e; omega)).trans hr1, (TextsP.of_own (ls := endsL) ho).any⟩
  clear hn hr hr0 hr1
  go_enter Tryz.func71, Tryz.ntmps71
  go_wp2_with (first
    | (go_at_call 76; (with_reducible refine (cN1 _).mono ?_); rintro e w1 ⟨rfl, hw⟩; subst hw)
    | (at_builtin; refine wpList_append_own _ rfl _ _ 40 rfl w.heap.size 9 i0 _ 1 16 Tryz.underlying40 hi hz0 hz1 hz2 rfl (by decide) _ _ _ rfl hown ⟨w.heap.size + 1, 0, none⟩ 1 1 [encS [91, 64, 93]] rfl rfl (World.news_of_block hnw) hone H1 H2 H3 ?_; intro v' W ho2 hg hat; obtain ⟨ap, cp, rfl, -⟩ := own_form ho2; obtain ⟨hkW, hrW, hTW⟩ := HX.out W ap cp hg ho2; have HKW := hid hkW; clear hat)
    | (go_at_call 68; (with_reducible refine (hW B ap cp W hrW hTW).mono ?_); rintro e w2 ⟨rfl, hk2, hr2⟩; have HK2 := hid (And.intro hk2 hr2); have hc2 := hW2 B _ (hr2.below ((Below.refl _ w2).alloc (Nat.le_refl _) (.cells #[encS [125]] 9))) w2.heap.size (heap_alloc_new w2 _); clear hk2 hr2)
    | (go_at_call 68; (with_reducible refine hc2.mono ?_); rintro e w3 ⟨rfl, hk3, hr3⟩)
    | (go_at_call 32; (with_reducible refine (clone_any [108, 101, 110, 91, 64, 93] (by simp) _).mono ?_); rintro e w4 ⟨rfl, hb4⟩))
  go_ret
  exact ⟨rfl, (((HKW.out.trans HK2.out.1 (fun g hg => .inl hg)).alloc _).trans hk3 (fun g hg => .inl hg)).trans (KF.of_below (F := fun _ => False) hb4) (fun _ h => h.elim), hr3.below hb4⟩
set_option maxRecDepth 100000 in
set_option maxHeartbeats 4000000 in
theorem length_c (s : ByteArray) (p d : Nat) (nm : List UInt8) (hnm : nm.length ≤ 281474976710656) (hn : nameL nm = true) (p1 : Nat) (hW : ∀ (B : Nat) (A : Option Addr) (c : Nat) (w : World), LRd w B s true p d → TextsP w (fun _ => True) A endsL → Calls Tryz.prog 68 #[.pointer (some ⟨B, 0, none⟩), .slice A 2 c] w fun e w' => e = .returned (encS [91, 64, 93]) ∧ KF (fun k => k = B) w w' ∧ LRd w' B s true p1 d) (e0 : Fe) (q : Nat) (hW2 : WantBad s true p1 d [125] e0 q) (B : Nat) (w : World) (hr : LRd w B s true p d) :
    Calls Tryz.prog 71 #[.pointer (some ⟨B, 0, none⟩), encS nm] w (PartBad B w e0 q) := by
  obtain ⟨i0, hi, hz0, hz1, hz2⟩ := info_parts info_str
  have hBw := hr.lt
  have hown := (World.ownsRow_lit (e := 9) (size := 1) (base := w.heap.size) w #[encS [125]] 1 (Nat.le_refl _) (by decide) rfl).alloc (.cells #[encS [91, 64, 93]] 9)
  have hr0 := hr.below ((Below.refl _ w).alloc (Nat.le_refl _) (.cells #[encS [125]] 9))
  have hr1 : LRd ((w.alloc (.cells #[encS [125]] 9)).alloc (.cells #[encS [91, 64, 93]] 9)) B s true p d := hr0.below ((Below.refl _ _).alloc (Nat.le_refl _) _)
  have c2 := hr0.c2
  have hnw := heap_alloc_new (w.alloc (.cells #[encS [125]] 9)) (.cells #[encS [91, 64, 93]] 9)
  simp only [World.size_alloc] at hnw
  have hone : ∀ u ∈ [encS [91, 64, 93]], u.oneCell' = true := fun u hu => by
    rw [List.mem_singleton.1 hu]; rfl
  have H1 : 1 + 1 ≤ maxLen := by decide
  have H2 : (1 + 1) * 16 ≤ 140737488355328 := by decide
  have H3 : w.heap.size ≤ ((w.alloc (.cells #[encS [125]] 9)).alloc (.cells #[encS [91, 64, 93]] 9)).heap.size := by simp; omega
  have cN1 : ∀ W, Calls Tryz.prog 76 #[encS nm] W fun e w' => e = .returned (.bool true) ∧ W = w' := fun W => by
    have := name_any ⟨nm.toArray⟩ W (by unfold maxLen; simp [ByteArray.size]; omega)
    rw [show (⟨nm.toArray⟩ : ByteArray).data.toList = nm by simp, hn] at this
    exact this
  have HX : Hid (∀ W (ap : Option Addr) (cp : Nat), ((w.alloc (.cells #[encS [125]] 9)).alloc (.cells #[encS [91, 64, 93]] 9)).grownBy W (some w.heap.size) → W.ownsRow w.heap.size 9 1 (.slice ap 2 cp) 2 [encS [125], encS [91, 64, 93]] → KF (fun k => k = B) w W ∧ LRd W B s true p d ∧ TextsP W (fun _ => True) ap endsL) := hid fun W ap cp hg ho => by
    refine ⟨(((KF.refl (fun k => k = B) w).alloc _).alloc _).grown hg (fun k hk => .inr (by cases hk; exact Nat.le_refl _)), (hg.block B hr1.lt (fun e => by cases e; omega)).trans hr1, (TextsP.of_own (ls := endsL) ho).any⟩
  clear hn hr hr0 hr1
  go_enter Tryz.func71, Tryz.ntmps71
  go_wp2_with (first
    | (go_at_call 76; (with_reducible refine (cN1 _).mono ?_); rintro e w1 ⟨rfl, hw⟩; subst hw)
    | (at_builtin; refine wpList_append_own _ rfl _ _ 40 rfl w.heap.size 9 i0 _ 1 16 Tryz.underlying40 hi hz0 hz1 hz2 rfl (by decide) _ _ _ rfl hown ⟨w.heap.size + 1, 0, none⟩ 1 1 [encS [91, 64, 93]] rfl rfl (World.news_of_block hnw) hone H1 H2 H3 ?_; intro v' W ho2 hg hat; obtain ⟨ap, cp, rfl, -⟩ := own_form ho2; obtain ⟨hkW, hrW, hTW⟩ := HX.out W ap cp hg ho2; have HKW := hid hkW; clear hat)
    | (go_at_call 68; (with_reducible refine (hW B ap cp W hrW hTW).mono ?_); rintro e w2 ⟨rfl, hk2, hr2⟩; have HK2 := hid (And.intro hk2 hr2); have hc2 := hW2 B _ (hr2.below ((Below.refl _ w2).alloc (Nat.le_refl _) (.cells #[encS [125]] 9))) w2.heap.size (heap_alloc_new w2 _); clear hk2 hr2)
    | (go_at_call 68; (with_reducible refine hc2.mono ?_); rintro e w3 ⟨rfl, hb3⟩))
  exact ⟨rfl, rfl, ((HKW.out.trans HK2.out.1 (fun g hg => .inl hg)).alloc _).trans (KF.of_below (F := fun _ => False) hb3) (fun _ h => h.elim)⟩
set_option maxRecDepth 100000 in
set_option maxHeartbeats 4000000 in
theorem length_d (s : ByteArray) (p d : Nat) (nm : List UInt8) (hnm : nm.length ≤ 281474976710656) (hn : nameL nm = true) (e0 : Fe) (q : Nat) (hW : ∀ (B : Nat) (A : Option Addr) (c : Nat) (w : World), LRd w B s true p d → TextsP w (fun _ => True) A endsL → Calls Tryz.prog 68 #[.pointer (some ⟨B, 0, none⟩), .slice A 2 c] w fun e w' => e = .panicked [faultL e0 q] ∧ Below w.heap.size w w') (B : Nat) (w : World) (hr : LRd w B s true p d) :
    Calls Tryz.prog 71 #[.pointer (some ⟨B, 0, none⟩), encS nm] w (PartBad B w e0 q) := by
  obtain ⟨i0, hi, hz0, hz1, hz2⟩ := info_parts info_str
  have hBw := hr.lt
  have hown := (World.ownsRow_lit (e := 9) (size := 1) (base := w.heap.size) w #[encS [125]] 1 (Nat.le_refl _) (by decide) rfl).alloc (.cells #[encS [91, 64, 93]] 9)
  have hr0 := hr.below ((Below.refl _ w).alloc (Nat.le_refl _) (.cells #[encS [125]] 9))
  have hr1 : LRd ((w.alloc (.cells #[encS [125]] 9)).alloc (.cells #[encS [91, 64, 93]] 9)) B s true p d := hr0.below ((Below.refl _ _).alloc (Nat.le_refl _) _)
  have c2 := hr0.c2
  have hnw := heap_alloc_new (w.alloc (.cells #[encS [125]] 9)) (.cells #[encS [91, 64, 93]] 9)
  simp only [World.size_alloc] at hnw
  have hone : ∀ u ∈ [encS [91, 64, 93]], u.oneCell' = true := fun u hu => by
    rw [List.mem_singleton.1 hu]; rfl
  have H1 : 1 + 1 ≤ maxLen := by decide
  have H2 : (1 + 1) * 16 ≤ 140737488355328 := by decide
  have H3 : w.heap.size ≤ ((w.alloc (.cells #[encS [125]] 9)).alloc (.cells #[encS [91, 64, 93]] 9)).heap.size := by simp; omega
  have cN1 : ∀ W, Calls Tryz.prog 76 #[encS nm] W fun e w' => e = .returned (.bool true) ∧ W = w' := fun W => by
    have := name_any ⟨nm.toArray⟩ W (by unfold maxLen; simp [ByteArray.size]; omega)
    rw [show (⟨nm.toArray⟩ : ByteArray).data.toList = nm by simp, hn] at this
    exact this
  have HX : Hid (∀ W (ap : Option Addr) (cp : Nat), ((w.alloc (.cells #[encS [125]] 9)).alloc (.cells #[encS [91, 64, 93]] 9)).grownBy W (some w.heap.size) → W.ownsRow w.heap.size 9 1 (.slice ap 2 cp) 2 [encS [125], encS [91, 64, 93]] → KF (fun k => k = B) w W ∧ LRd W B s true p d ∧ TextsP W (fun _ => True) ap endsL) := hid fun W ap cp hg ho => by
    refine ⟨(((KF.refl (fun k => k = B) w).alloc _).alloc _).grown hg (fun k hk => .inr (by cases hk; exact Nat.le_refl _)), (hg.block B hr1.lt (fun e => by cases e; omega)).trans hr1, (TextsP.of_own (ls := endsL) ho).any⟩
  clear hn hr hr0 hr1
  go_enter Tryz.func71, Tryz.ntmps71
  go_wp2_with (first
    | (go_at_call 76; (with_reducible refine (cN1 _).mono ?_); rintro e w1 ⟨rfl, hw⟩; subst hw)
    | (at_builtin; refine wpList_append_own _ rfl _ _ 40 rfl w.heap.size 9 i0 _ 1 16 Tryz.underlying40 hi hz0 hz1 hz2 rfl (by decide) _ _ _ rfl hown ⟨w.heap.size + 1, 0, none⟩ 1 1 [encS [91, 64, 93]] rfl rfl (World.news_of_block hnw) hone H1 H2 H3 ?_; intro v' W ho2 hg hat; obtain ⟨ap, cp, rfl, -⟩ := own_form ho2; obtain ⟨hkW, hrW, hTW⟩ := HX.out W ap cp hg ho2; have HKW := hid hkW; clear hat)
    | (go_at_call 68; (with_reducible refine (hW B ap cp W hrW hTW).mono ?_); rintro e w2 ⟨rfl, hb2⟩))
  exact ⟨rfl, rfl, HKW.out.trans (KF.of_below (F := fun _ => False) hb2) (fun _ h => h.elim)⟩
theorem length_res (s : ByteArray) (bash : Bool) (p d : Nat) (nm : List UInt8) (hnm : nm.length ≤ 281474976710656) (hs : s.size ≤ 137438953472) (hp : p ≤ s.size) :
    (∃ p' op, p + 1 ≤ p' ∧ p' ≤ s.size ∧ ∀ B w, LRd w B s bash p d → Calls Tryz.prog 71 #[.pointer (some ⟨B, 0, none⟩), encS nm] w (LenPost B s bash p' d w op)) ∨
    ∃ e0 q, e0.e ≠ 0 ∧ ∀ B w, LRd w B s bash p d → Calls Tryz.prog 71 #[.pointer (some ⟨B, 0, none⟩), encS nm] w (PartBad B w e0 q) := by
  by_cases hx : bash = true ∧ nameL nm = true
  · obtain ⟨rfl, hn⟩ := hx
    rcases want_res endsL s true p d (by omega) hp (by decide) with ⟨x, hx, hle, hW⟩ | ⟨e0, q, he, hW⟩
    · have hx2 : x = [125] ∨ x = [91, 64, 93] := by simpa [endsL] using hx
      rcases hx2 with rfl | rfl
      · exact .inl ⟨p + [(125 : UInt8)].length, [108, 101, 110], by simp, hle, fun B w hr => length_a s p d nm hnm hn _ hW B w hr⟩
      · rcases want1_res [125] s true (p + [(91 : UInt8), 64, 93].length) d (by omega) hle with ⟨hle2, hW2⟩ | ⟨e0, q, he, hW2⟩
        · exact .inl ⟨_, [108, 101, 110, 91, 64, 93], by simp only [List.length_cons, List.length_nil]; omega, hle2, fun B w hr => length_b s p d nm hnm hn _ _ hW hW2 B w hr⟩
        · exact .inr ⟨e0, q, he, fun B w hr => length_c s p d nm hnm hn _ hW e0 q hW2 B w hr⟩
    · exact .inr ⟨e0, q, he, fun B w hr => length_d s p d nm hnm hn e0 q hW B w hr⟩
  · have hext : bash = false ∨ nameL nm = false := by
      cases bash
      · exact .inl rfl
      · exact .inr (by simpa using hx)
    rcases want1_res [125] s bash p d (by omega) hp with ⟨hle, hW⟩ | ⟨e0, q, he, hW⟩
    · exact .inl ⟨_, [108, 101, 110], by simp, hle, fun B w hr => length_ok1 s bash p d _ nm hnm hext hW B w hr⟩
    · exact .inr ⟨e0, q, he, fun B w hr => length_bad1 s bash p d e0 q nm hnm hext hW B w hr⟩
end Go.Proofs.YtialepcdbpofkaaGreat
namespace Go.Proofs.YtialepcdbpofkaaGreat
open Go.RowKit
open Go.Lib (hid)
theorem info_sum : (Tryz.prog.info? 98).map (fun i => (i.zero, i.size, i.bytes)) = some (some (.agg #[.string .empty, .string .empty, .int .i64 0, .slice none 0 0]), 4, 64) := by kernel_rfl
def SpanPost (B : Nat) (s : ByteArray) (bash : Bool) (p' d : Nat) (w : World) (e : Ending) (w' : World) : Prop := (∃ A n c, e = .returned (.slice A n c)) ∧ KF (fun k => k = B) w w' ∧ LRd w' B s bash p' d
set_option maxRecDepth 100000 in
set_option maxHeartbeats 1000000 in
theorem span_bad0 (s : ByteArray) (bash : Bool) (p d : Nat) (hs : s.size ≤ 137438953472) (hp : p ≤ s.size) (hi : Lib.indexByte (s.data.toList.drop p) 125 < 0) (B : Nat) (w : World) (hr : LRd w B s bash p d) :
    Calls Tryz.prog 87 #[.pointer (some ⟨B, 0, none⟩)] w (PartBad B w 8 s.size) := by
  have c1 := hr.c1
  have cF : Calls Tryz.prog 48 #[.pointer (some ⟨B, 0, none⟩), .int .i64 p, .int .u8 125] w fun e w' => e = .panicked [faultL 8 s.size] ∧ Below w.heap.size w w' := by
    have := find_any p 125 B s bash p d w hr hp (by omega)
    rw [show (((125 : UInt8).toNat : Nat) : Int) = 125 from rfl] at this
    refine this.mono fun e w' h => ?_
    rw [if_neg (by omega)] at h
    exact h
  clear hi hr
  go_enter Tryz.func87, Tryz.ntmps87
  go_wp2_with (go_at_call 48; (with_reducible refine cF.mono ?_); rintro e w1 ⟨rfl, hb1⟩)
  exact ⟨rfl, rfl, KF.of_below hb1⟩
set_option maxRecDepth 100000 in
set_option maxHeartbeats 1000000 in
theorem span_bad1 (s : ByteArray) (bash : Bool) (p d k m : Nat) (hs : s.size ≤ 137438953472) (hi : Lib.indexByte (s.data.toList.drop p) 125 = k) (hk : p + k < s.size) (hm : partedL ((s.data.toList.drop p).take k) 0 = m) (hmk : m ≤ k) (e0 : Fe) (q : Nat) (hP : ParsedErr s bash p (p + m) e0 q) (B : Nat) (w : World) (hr : LRd w B s bash p d) :
    Calls Tryz.prog 87 #[.pointer (some ⟨B, 0, none⟩)] w (PartBad B w e0 q) := by
  have c0 := hr.c0; have c1 := hr.c1
  have cF : Calls Tryz.prog 48 #[.pointer (some ⟨B, 0, none⟩), .int .i64 p, .int .u8 125] w fun e w' => e = .returned (.int .i64 ((p : Int) + k)) ∧ w' = w := by
    have := find_any p 125 B s bash p d w hr (by omega) (by omega)
    rw [show (((125 : UInt8).toNat : Nat) : Int) = 125 from rfl, hi] at this
    refine this.mono fun e w' h => ?_
    rw [if_pos (by omega)] at h
    exact h
  have cQ : ∀ W, Calls Tryz.prog 101 #[.string (s.extract p (p + k))] W fun e w' => e = .returned (.int .i64 m) ∧ w' = W := fun W => by
    have := parted_any (s.extract p (p + k)) (by rw [ByteArray.size_extract]; omega) W
    rw [ext_mid, show p + k - p = k by omega, hm] at this
    exact this
  have hp0 : (0 : Int) ≤ (p : Int) := by omega
  have hk0 : (0 : Int) ≤ (k : Int) := by omega
  have hm0 : (0 : Int) ≤ (m : Int) := by omega
  have hmki : (m : Int) ≤ (k : Int) := by omega
  have hpk : (p : Int) ≤ (p : Int) + (k : Int) := by omega
  have hpks : (p : Int) + (k : Int) ≤ (s.size : Int) := by omega
  have hsi : (s.size : Int) ≤ 137438953472 := by omega
  have hpm : ((p + m : Nat) : Int) = (p : Int) + (m : Int) := by omega
  have hpkc : ((p + k : Nat) : Int) = (p : Int) + (k : Int) := by omega
  have cP := fun n => hP B p d (w.drewN n) hr
  simp only [hpm] at cP
  clear hi hm hP hr
  go_enter Tryz.func87, Tryz.ntmps87
  go_wp2_with (go_at_call 48; (with_reducible refine cF.mono ?_); rintro e w1 ⟨rfl, hw⟩; have hw := hw.symm; subst hw)
  go_quiet ((go_at_call 101; exact Calls.quiet_of_same (cQ _)))
  go_wp2_with (go_at_call 69; (with_reducible refine (cP _).mono ?_); rintro e w2 ⟨rfl, hb2⟩)
  exact ⟨rfl, rfl, KF.undrewN (KF.of_below hb2)⟩
set_option maxRecDepth 100000 in
set_option maxHeartbeats 1000000 in
theorem span_ok1 (s : ByteArray) (bash : Bool) (p d k m : Nat) (hs : s.size ≤ 137438953472) (hi : Lib.indexByte (s.data.toList.drop p) 125 = k) (hk : p + k < s.size) (hm : partedL ((s.data.toList.drop p).take k) 0 = m) (hmk : m ≤ k) (hmk2 : m = k) (hP : ParsedOk s bash p (p + m)) (B : Nat) (w : World) (hr : LRd w B s bash p d) :
    Calls Tryz.prog 87 #[.pointer (some ⟨B, 0, none⟩)] w (SpanPost B s bash (p + k) d w) := by
  have c0 := hr.c0; have c1 := hr.c1
  have cF : Calls Tryz.prog 48 #[.pointer (some ⟨B, 0, none⟩), .int .i64 p, .int .u8 125] w fun e w' => e = .returned (.int .i64 ((p : Int) + k)) ∧ w' = w := by
    have := find_any p 125 B s bash p d w hr (by omega) (by omega)
    rw [show (((125 : UInt8).toNat : Nat) : Int) = 125 from rfl, hi] at this
    refine this.mono fun e w' h => ?_
    rw [if_pos (by omega)] at h
    exact h
  have cQ : ∀ W, Calls Tryz.prog 101 #[.string (s.extract p (p + k))] W fun e w' => e = .returned (.int .i64 m) ∧ w' = W := fun W => by
    have := parted_any (s.extract p (p + k)) (by rw [ByteArray.size_extract]; omega) W
    rw [ext_mid, show p + k - p = k by omega, hm] at this
    exact this
  have hp0 : (0 : Int) ≤ (p : Int) := by omega
  have hk0 : (0 : Int) ≤ (k : Int) := by omega
  have hm0 : (0 : Int) ≤ (m : Int) := by omega
  have hmki : (m : Int) ≤ (k : Int) := by omega
  have hpk : (p : Int) ≤ (p : Int) + (k : Int) := by omega
  have hpks : (p : Int) + (k : Int) ≤ (s.size : Int) := by omega
  have hsi : (s.size : Int) ≤ 137438953472 := by omega
  have hpm : ((p + m : Nat) : Int) = (p : Int) + (m : Int) := by omega
  have hpkc : ((p + k : Nat) : Int) = (p : Int) + (k : Int) := by omega
  have cP := fun n => hP B p d (w.drewN n) hr
  simp only [hpm] at cP
  have HR := hid (fun n => (show LRd (w.drewN n) B s bash p d from hr))
  subst hmk2
  clear hi hm hP hr
  go_enter Tryz.func87, Tryz.ntmps87
  go_wp2_with (go_at_call 48; (with_reducible refine cF.mono ?_); rintro e w1 ⟨rfl, hw⟩; have hw := hw.symm; subst hw)
  go_quiet ((go_at_call 101; exact Calls.quiet_of_same (cQ _)))
  go_wp2_with (first
    | (go_at_call 69; (with_reducible refine (cP _).mono ?_); (rintro e w2 ⟨hb2, A, c, v0, v1, v2, n3, rfl, hone⟩; have HB2 := hid (And.intro hb2 hone); clear hb2 hone; have hr3 : LRd (w2.alloc (.cells #[v0, v1, v2, .slice A n3 c] 98)) B s bash p d := (LRd.below (HR.out _) HB2.out.1).below ((Below.refl _ _).alloc (Nat.le_refl _) _); have k1 := hr3.c1; have kf := hr3.free 1; have HR3 := hid hr3; clear hr3))
    | fail)
  go_ret
  refine ⟨⟨_, _, _, rfl⟩, ?_, ?_⟩
  · exact ((KF.undrewN (KF.of_below (F := fun k => k = B) HB2.out.1)).alloc _).set (.inl rfl) 1 _
  · have := HR3.out.at_ (p + m)
    rw [hpkc] at this
    exact this
set_option maxRecDepth 100000 in
set_option maxHeartbeats 1000000 in
theorem span_bad2 (s : ByteArray) (bash : Bool) (p d k m : Nat) (hs : s.size ≤ 137438953472) (hi : Lib.indexByte (s.data.toList.drop p) 125 = k) (hk : p + k < s.size) (hm : partedL ((s.data.toList.drop p).take k) 0 = m) (hmk2 : m < k) (hP : ParsedOk s bash p (p + m)) (e0 : Fe) (q : Nat) (hP2 : ParsedErr s bash (p + m + 1) (p + k) e0 q) (B : Nat) (w : World) (hr : LRd w B s bash p d) :
    Calls Tryz.prog 87 #[.pointer (some ⟨B, 0, none⟩)] w (PartBad B w e0 q) := by
  have c0 := hr.c0; have c1 := hr.c1
  have cF : Calls Tryz.prog 48 #[.pointer (some ⟨B, 0, none⟩), .int .i64 p, .int .u8 125] w fun e w' => e = .returned (.int .i64 ((p : Int) + k)) ∧ w' = w := by
    have := find_any p 125 B s bash p d w hr (by omega) (by omega)
    rw [show (((125 : UInt8).toNat : Nat) : Int) = 125 from rfl, hi] at this
    refine this.mono fun e w' h => ?_
    rw [if_pos (by omega)] at h
    exact h
  have cQ : ∀ W, Calls Tryz.prog 101 #[.string (s.extract p (p + k))] W fun e w' => e = .returned (.int .i64 m) ∧ w' = W := fun W => by
    have := parted_any (s.extract p (p + k)) (by rw [ByteArray.size_extract]; omega) W
    rw [ext_mid, show p + k - p = k by omega, hm] at this
    exact this
  have hp0 : (0 : Int) ≤ (p : Int) := by omega
  have hk0 : (0 : Int) ≤ (k : Int) := by omega
  have hm0 : (0 : Int) ≤ (m : Int) := by omega
  have hmki : (m : Int) ≤ (k : Int) := by omega
  have hpk : (p : Int) ≤ (p : Int) + (k : Int) := by omega
  have hpks : (p : Int) + (k : Int) ≤ (s.size : Int) := by omega
  have hsi : (s.size : Int) ≤ 137438953472 := by omega
  have hpm : ((p + m : Nat) : Int) = (p : Int) + (m : Int) := by omega
  have hpkc : ((p + k : Nat) : Int) = (p : Int) + (k : Int) := by omega
  have cP := fun n => hP B p d (w.drewN n) hr
  simp only [hpm] at cP
  have HR := hid (fun n => (show LRd (w.drewN n) B s bash p d from hr))
  have hmk2i : (m : Int) < (k : Int) := by omega
  have hpm1 : ((p + m + 1 : Nat) : Int) = (p : Int) + (m : Int) + 1 := by omega
  have HP2 := hid hP2
  clear hP2
  clear hi hm hP hr
  go_enter Tryz.func87, Tryz.ntmps87
  go_wp2_with (go_at_call 48; (with_reducible refine cF.mono ?_); rintro e w1 ⟨rfl, hw⟩; have hw := hw.symm; subst hw)
  go_quiet ((go_at_call 101; exact Calls.quiet_of_same (cQ _)))
  go_wp2_with (first
    | (go_at_call 69; (with_reducible refine (cP _).mono ?_); (rintro e w2 ⟨hb2, A, c, v0, v1, v2, n3, rfl, hone⟩; have HB2 := hid (And.intro hb2 hone); clear hb2 hone; have hr3 : LRd (w2.alloc (.cells #[v0, v1, v2, .slice A n3 c] 98)) B s bash p d := (LRd.below (HR.out _) HB2.out.1).below ((Below.refl _ _).alloc (Nat.le_refl _) _); have cP2 := HP2.out B p d _ hr3; simp only [hpm1, hpkc] at cP2; clear hr3))
    | (go_at_call 69; (with_reducible refine cP2.mono ?_); rintro e w3 ⟨rfl, hb3⟩))
  exact ⟨rfl, rfl, ((KF.undrewN (KF.of_below (F := fun k => k = B) HB2.out.1)).alloc _).trans (KF.of_below (F := fun _ => False) hb3) (fun _ h => h.elim)⟩
set_option maxRecDepth 100000 in
set_option maxHeartbeats 1000000 in
theorem span_ok2 (s : ByteArray) (bash : Bool) (p d k m : Nat) (hs : s.size ≤ 137438953472) (hi : Lib.indexByte (s.data.toList.drop p) 125 = k) (hk : p + k < s.size) (hm : partedL ((s.data.toList.drop p).take k) 0 = m) (hmk2 : m < k) (hP : ParsedOk s bash p (p + m)) (hP2 : ParsedOk s bash (p + m + 1) (p + k)) (B : Nat) (w : World) (hr : LRd w B s bash p d) :
    Calls Tryz.prog 87 #[.pointer (some ⟨B, 0, none⟩)] w (SpanPost B s bash (p + k) d w) := by
  have c0 := hr.c0; have c1 := hr.c1
  have cF : Calls Tryz.prog 48 #[.pointer (some ⟨B, 0, none⟩), .int .i64 p, .int .u8 125] w fun e w' => e = .returned (.int .i64 ((p : Int) + k)) ∧ w' = w := by
    have := find_any p 125 B s bash p d w hr (by omega) (by omega)
    rw [show (((125 : UInt8).toNat : Nat) : Int) = 125 from rfl, hi] at this
    refine this.mono fun e w' h => ?_
    rw [if_pos (by omega)] at h
    exact h
  have cQ : ∀ W, Calls Tryz.prog 101 #[.string (s.extract p (p + k))] W fun e w' => e = .returned (.int .i64 m) ∧ w' = W := fun W => by
    have := parted_any (s.extract p (p + k)) (by rw [ByteArray.size_extract]; omega) W
    rw [ext_mid, show p + k - p = k by omega, hm] at this
    exact this
  have hp0 : (0 : Int) ≤ (p : Int) := by omega
  have hk0 : (0 : Int) ≤ (k : Int) := by omega
  have hm0 : (0 : Int) ≤ (m : Int) := by omega
  have hmki : (m : Int) ≤ (k : Int) := by omega
  have hpk : (p : Int) ≤ (p : Int) + (k : Int) := by omega
  have hpks : (p : Int) + (k : Int) ≤ (s.size : Int) := by omega
  have hsi : (s.size : Int) ≤ 137438953472 := by omega
  have hpm : ((p + m : Nat) : Int) = (p : Int) + (m : Int) := by omega
  have hpkc : ((p + k : Nat) : Int) = (p : Int) + (k : Int) := by omega
  have cP := fun n => hP B p d (w.drewN n) hr
  simp only [hpm] at cP
  have HR := hid (fun n => (show LRd (w.drewN n) B s bash p d from hr))
  obtain ⟨i0, hi0, hz0, hz1, hz2⟩ := info_parts info_sum
  have hmk2i : (m : Int) < (k : Int) := by omega
  have hpm1 : ((p + m + 1 : Nat) : Int) = (p : Int) + (m : Int) + 1 := by omega
  have HP2 := hid hP2
  have H1 : 1 + 1 ≤ maxLen := by decide
  have H2 : (1 + 1) * 64 ≤ 140737488355328 := by decide
  have hBw := hr.lt
  clear hP2
  clear hi hm hP hr
  go_enter Tryz.func87, Tryz.ntmps87
  go_wp2_with (go_at_call 48; (with_reducible refine cF.mono ?_); rintro e w1 ⟨rfl, hw⟩; have hw := hw.symm; subst hw)
  go_quiet ((go_at_call 101; exact Calls.quiet_of_same (cQ _)))
  go_wp2_with (first
    | (go_at_call 69; (with_reducible refine (cP _).mono ?_); (rintro e w2 ⟨hb2, A, c, v0, v1, v2, n3, rfl, hone⟩; have HB2 := hid (And.intro hb2 hone); clear hb2 hone; have hr3 : LRd (w2.alloc (.cells #[v0, v1, v2, .slice A n3 c] 98)) B s bash p d := (LRd.below (HR.out _) HB2.out.1).below ((Below.refl _ _).alloc (Nat.le_refl _) _); have cP2 := HP2.out B p d _ hr3; simp only [hpm1, hpkc] at cP2; have HR3 := hid hr3; clear hr3))
    | (go_at_call 69; (with_reducible refine cP2.mono ?_); rintro e w3 ⟨hb3, A', c', u0, u1, u2, n4, rfl, hone3⟩; have hs2 := HB2.out.1.size; have hown := (own_below (World.ownsRow_lit (e := 98) (size := 4) (base := w.heap.size) w2 #[v0, v1, v2, .slice A n3 c] 1 (by exact hs2) (by decide) rfl) hb3).alloc (.cells #[u0, u1, u2, .slice A' n4 c'] 98); have hnw := heap_alloc_new w3 (.cells #[u0, u1, u2, .slice A' n4 c'] 98); have hs3 := hb3.size; have H3 : w.heap.size ≤ (w3.alloc (.cells #[u0, u1, u2, .slice A' n4 c'] 98)).heap.size := (by simp only [World.size_alloc] at hs3 ⊢; have h9 : w.heap.size ≤ w2.heap.size := hs2; omega); have hone4 : ∀ u ∈ [u0, u1, u2, .slice A' n4 c'], u.oneCell' = true := (fun u hu => Array.all_eq_true_iff_forall_mem.1 hone3 u (by simpa using hu)))
    | (at_builtin; refine wpList_append_own _ rfl _ _ 31 rfl w.heap.size 98 i0 _ 4 64 Tryz.underlying31 hi0 hz0 hz1 hz2 rfl (by decide) _ _ _ rfl hown ⟨w3.heap.size, 0, none⟩ 1 1 [u0, u1, u2, .slice A' n4 c'] rfl rfl (World.news_of_block hnw) hone4 H1 H2 H3 ?_; intro v' W ho2 hg hat; obtain ⟨ap, cp, rfl, -⟩ := own_form ho2; have hk3 : KF (fun k => k = B) w (w3.alloc (.cells #[u0, u1, u2, .slice A' n4 c'] 98)) := (((KF.undrewN (KF.of_below (F := fun k => k = B) HB2.out.1)).alloc _).trans (KF.of_below (F := fun _ => False) hb3) (fun _ h => h.elim)).alloc _; have hkW := hk3.grown hg (fun k hk => .inr (hown.lt k hk).1); have hrW : LRd W B s bash p d := (hg.block B (LRd.lt (((HR3.out).below hb3).below ((Below.refl _ _).alloc (Nat.le_refl _) (.cells #[u0, u1, u2, .slice A' n4 c'] 98)))) (fun e => by have := (hown.lt B e.symm).1; omega)).trans (((HR3.out).below hb3).below ((Below.refl _ _).alloc (Nat.le_refl _) _)); have k1 := hrW.c1; have kf := hrW.free 1; have HW := hid (And.intro hkW hrW); clear hrW hkW hk3 hat))
  go_ret
  refine ⟨⟨_, _, _, rfl⟩, HW.out.1.set (.inl rfl) 1 _, ?_⟩
  have := HW.out.2.at_ (p + k)
  rw [hpkc] at this
  exact this
theorem span_res (hPar : ∀ (s : ByteArray) (bash : Bool) (fr en : Nat), s.size ≤ 137438953472 → fr ≤ en → en ≤ s.size → ParsedOk s bash fr en ∨ ∃ e0 pl, e0.e ≠ 0 ∧ ParsedErr s bash fr en e0 pl) (s : ByteArray) (bash : Bool) (p d : Nat) (hs : s.size ≤ 137438953472) (hp : p ≤ s.size) :
    (∃ p', p ≤ p' ∧ p' ≤ s.size ∧ ∀ B w, LRd w B s bash p d → Calls Tryz.prog 87 #[.pointer (some ⟨B, 0, none⟩)] w (SpanPost B s bash p' d w)) ∨
    ∃ e0 q, e0.e ≠ 0 ∧ ∀ B w, LRd w B s bash p d → Calls Tryz.prog 87 #[.pointer (some ⟨B, 0, none⟩)] w (PartBad B w e0 q) := by
  by_cases hi : Lib.indexByte (s.data.toList.drop p) 125 < 0
  · exact .inr ⟨8, s.size, by decide, fun B w hr => span_bad0 s bash p d hs hp hi B w hr⟩
  · obtain ⟨k, hk⟩ := Int.eq_ofNat_of_zero_le (by omega : 0 ≤ Lib.indexByte (s.data.toList.drop p) 125)
    have hlt := indexByte_lt (s.data.toList.drop p) 125
    rw [hk, List.length_drop, len_toList] at hlt
    have hk2 : p + k < s.size := by omega
    obtain ⟨m, hm⟩ : ∃ m, partedL ((s.data.toList.drop p).take k) 0 = m := ⟨_, rfl⟩
    have hmk : m ≤ k := by
      have := partedL_le ((s.data.toList.drop p).take k) 0
      rw [hm, List.length_take] at this
      omega
    rcases hPar s bash p (p + m) hs (by omega) (by omega) with hP | ⟨e0, q, he, hP⟩
    · by_cases hmk2 : m = k
      · exact .inl ⟨p + k, by omega, by omega, fun B w hr => span_ok1 s bash p d k m hs hk hk2 hm hmk hmk2 hP B w hr⟩
      · rcases hPar s bash (p + m + 1) (p + k) hs (by omega) (by omega) with hP2 | ⟨e0, q, he, hP2⟩
        · exact .inl ⟨p + k, by omega, by omega, fun B w hr => span_ok2 s bash p d k m hs hk hk2 hm (by omega) hP hP2 B w hr⟩
        · exact .inr ⟨e0, q, he, fun B w hr => span_bad2 s bash p d k m hs hk hk2 hm (by omega) hP e0 q hP2 B w hr⟩
    · exact .inr ⟨e0, q, he, fun B w hr => span_bad1 s bash p d k m hs hk hk2 hm hmk e0 q hP B w hr⟩
end Go.Proofs.YtialepcdbpofkaaGreat
namespace Go.Proofs.YtialepcdbpofkaaGreat
open Go.RowKit
open Go.Lib (hid)
structure CS (w : World) (B Pb : Nat) (s : ByteArray) (bash : Bool) (d p : Nat) (pt : Pt) (W : World) : Prop where
  box : W.heap[Pb]? = some (.cells (cellsPt pt).toArray 34 (0, 0))
  rd : LRd W B s bash p d
  kf : KF (fun k => k = B ∨ k = Pb) w W
  ne : Pb ≠ B
section
variable {w W W' : World} {B Pb d p : Nat} {s : ByteArray} {bash : Bool} {pt : Pt}
theorem CS.below (h : CS w B Pb s bash d p pt W) (hb : Below W.heap.size W W') : CS w B Pb s bash d p pt W' :=
  ⟨heap_below' h.box hb, h.rd.below hb, h.kf.trans (KF.of_below (F := fun _ => False) hb) (fun _ h => h.elim), h.ne⟩
theorem CS.alloc (h : CS w B Pb s bash d p pt W) (o : Obj) : CS w B Pb s bash d p pt (W.alloc o) := h.below ((Below.refl _ _).alloc (Nat.le_refl _) o)
theorem CS.drewN (h : CS w B Pb s bash d p pt W) (n : Nat) : CS w B Pb s bash d p pt (W.drewN n) := h.below (below_drewN (Below.refl _ _) n)
theorem CS.kept (h : CS w B Pb s bash d p pt W) (hk : KF (fun k => k = B) W W') {p' : Nat} (hr : LRd W' B s bash p' d) : CS w B Pb s bash d p' pt W' :=
  ⟨(hk.block Pb (lt_of_block h.box) h.ne).trans h.box, hr, h.kf.trans hk (fun _ hg => .inl (.inl hg)), h.ne⟩
theorem CS.at_ (h : CS w B Pb s bash d p pt W) (p' : Nat) : CS w B Pb s bash d p' pt (W.setCell ⟨B, 1, none⟩ (.int .i64 p')) :=
  ⟨(Below.heap_setCell _ _ _ _ h.ne).trans h.box, h.rd.at_ p', h.kf.set (.inl (.inl rfl)) _ _, h.ne⟩
theorem CS.setc (h : CS w B Pb s bash d p pt W) {pt' : Pt} (j : Nat) (v : Value) (hj : ((cellsPt pt).set j v) = cellsPt pt') : CS w B Pb s bash d p pt' (W.setCell ⟨Pb, j, none⟩ v) := by
  refine ⟨?_, (Below.heap_setCell _ _ _ _ (Ne.symm h.ne)).trans h.rd, h.kf.set (.inl (.inr rfl)) _ _, h.ne⟩
  rw [heap_setCell_same _ _ _ _ _ _ h.box, ← hj]
  simp
theorem CS.op (h : CS w B Pb s bash d p pt W) (x : List UInt8) : CS w B Pb s bash d p { pt with op := x } (W.setCell ⟨Pb, 3, none⟩ (encS x)) := h.setc 3 _ rfl
theorem CS.wd (h : CS w B Pb s bash d p pt W) (v : Sl) : CS w B Pb s bash d p { pt with wd := v } (W.setCell ⟨Pb, 5, none⟩ (.slice v.a v.n v.c)) := h.setc 5 _ rfl
theorem CS.mo (h : CS w B Pb s bash d p pt W) (v : Sl) : CS w B Pb s bash d p { pt with mo := v } (W.setCell ⟨Pb, 6, none⟩ (.slice v.a v.n v.c)) := h.setc 6 _ rfl
theorem CS.su (h : CS w B Pb s bash d p pt W) (v : Sl) : CS w B Pb s bash d p { pt with su := v } (W.setCell ⟨Pb, 7, none⟩ (.slice v.a v.n v.c)) := h.setc 7 _ rfl
theorem CS.f (h : CS w B Pb s bash d p pt W) (j : Nat) : W.frozen? ⟨Pb, j, none⟩ = false := Lib.frozen_of_heap h.box j
theorem CS.c3 (h : CS w B Pb s bash d p pt W) : W.cell? ⟨Pb, 3, none⟩ = some (encS pt.op) := by rw [Lib.cell_of_heap h.box]; rfl
theorem CS.c5 (h : CS w B Pb s bash d p pt W) : W.cell? ⟨Pb, 5, none⟩ = some (.slice pt.wd.a pt.wd.n pt.wd.c) := by rw [Lib.cell_of_heap h.box]; rfl
theorem CS.c6 (h : CS w B Pb s bash d p pt W) : W.cell? ⟨Pb, 6, none⟩ = some (.slice pt.mo.a pt.mo.n pt.mo.c) := by rw [Lib.cell_of_heap h.box]; rfl
theorem CS.c7 (h : CS w B Pb s bash d p pt W) : W.cell? ⟨Pb, 7, none⟩ = some (.slice pt.su.a pt.su.n pt.su.c) := by rw [Lib.cell_of_heap h.box]; rfl
end
theorem alloc_at {W : World} {o : Obj} {g : Nat} (h : W.heap.size = g) : (W.alloc o).heap[g]? = some o := by
  subst h
  exact heap_alloc_new W o
def ChRes (B Pb : Nat) (s : ByteArray) (bash : Bool) (d : Nat) (w : World) : Except (Fe × Nat) (Nat × Pt) → Ending → World → Prop
  | .ok (p', pt0), e, w' => e = .returned (.tuple #[]) ∧ ∃ pt, shP pt = pt0 ∧ CS w B Pb s bash d p' pt w'
  | .error (e0, q), e, w' => e = .panicked [faultL e0 q] ∧ KF (fun k => k = B ∨ k = Pb) w w'
def EndC (s : ByteArray) (bash : Bool) (p d : Nat) : Option (Fe × Nat) → Prop
  | none => WantOk s bash p d [125] (p + 1)
  | some (e0, q) => WantBad s bash p d [125] e0 q
def endE (p : Nat) (pt : Pt) : Option (Fe × Nat) → Except (Fe × Nat) (Nat × Pt)
  | none => .ok (p + 1, pt)
  | some y => .error y
def WantX (s : ByteArray) (bash : Bool) (p d : Nat) (x : List UInt8) (p1 : Nat) : Prop := ∀ (B : Nat) (A : Option Addr) (c : Nat) (w : World), LRd w B s bash p d → TextsP w (fun _ => True) A (opsL bash) → Calls Tryz.prog 68 #[.pointer (some ⟨B, 0, none⟩), .slice A (opsL bash).length c] w fun e w' => e = .returned (encS x) ∧ KF (fun k => k = B) w w' ∧ LRd w' B s bash p1 d
def brPt (nm op : List UInt8) (q : Bool) : Pt := ⟨2, [], nm, op, q, .no, .no, .no, .no, 0⟩
set_option maxRecDepth 100000 in
set_option maxHeartbeats 4000000 in
theorem change_close (s : ByteArray) (bash : Bool) (p d way : Nat) (n0 : List UInt8) (q0 : Bool) (x : List UInt8) (hxl : x.length ≤ 100) (p1 : Nat) (hX : WantX s bash p d x p1) (h125 : (x == [125]) = true) (B Pb : Nat) (w : World) (hcs : CS w B Pb s bash d p (brPt n0 [] q0) w) :
    Calls Tryz.prog 72 #[.pointer (some ⟨B, 0, none⟩), .pointer (some ⟨Pb, 0, none⟩), .int .i64 way] w (ChRes B Pb s bash d w (.ok (p1, brPt n0 [] q0))) := by
  have c2 := hcs.rd.c2
  have cO := ops_any bash w
  have hX1 := fun (A : Option Addr) (c : Nat) (w1 : World) (hb : Below w.heap.size w w1) (hT : TextsP w1 (fun _ => True) A (opsL bash)) => hX B A c w1 (hcs.rd.below hb) hT
  have cN := fun W => clone_any x (by omega) W
  have HC := hid hcs
  clear hX hcs
  go_enter Tryz.func72, Tryz.ntmps72
  go_wp2_with (first
    | (go_at_call 86; (with_reducible refine cO.mono ?_); rintro e w1 ⟨A, c, rfl, hT, hb1⟩; have h1 := HC.out.below hb1; have HX1 := hid (hX1 A c w1 hb1 hT); have H1 := hid h1; clear h1 hT hb1)
    | (go_at_call 68; (with_reducible refine HX1.out.mono ?_); rintro e w2 ⟨rfl, hk2, hr2⟩; have H2 := hid (H1.out.kept hk2 hr2); clear hk2 hr2)
    | (go_at_call 32; (with_reducible refine (cN _).mono ?_); rintro e w3 ⟨rfl, hb3⟩; have h3 := H2.out.below hb3; have f3 := h3.f 3; have y3 := h3.c3; have H4 := hid (h3.op x); clear h3 hb3))
  go_end0
  exact ⟨rfl, _, rfl, H2.out⟩
set_option maxRecDepth 100000 in
set_option maxHeartbeats 4000000 in
theorem change_bad (s : ByteArray) (bash : Bool) (p d way : Nat) (n0 : List UInt8) (q0 : Bool) (e0 : Fe) (q : Nat) (hX : ∀ (B : Nat) (A : Option Addr) (c : Nat) (w : World), LRd w B s bash p d → TextsP w (fun _ => True) A (opsL bash) → Calls Tryz.prog 68 #[.pointer (some ⟨B, 0, none⟩), .slice A (opsL bash).length c] w fun e w' => e = .panicked [faultL e0 q] ∧ Below w.heap.size w w')
    (B Pb : Nat) (w : World) (hcs : CS w B Pb s bash d p (brPt n0 [] q0) w) :
    Calls Tryz.prog 72 #[.pointer (some ⟨B, 0, none⟩), .pointer (some ⟨Pb, 0, none⟩), .int .i64 way] w (ChRes B Pb s bash d w (.error (e0, q))) := by
  have c2 := hcs.rd.c2
  have cO := ops_any bash w
  have hX1 := fun (A : Option Addr) (c : Nat) (w1 : World) (hb : Below w.heap.size w w1) (hT : TextsP w1 (fun _ => True) A (opsL bash)) => hX B A c w1 (hcs.rd.below hb) hT
  have HC := hid hcs
  clear hX hcs
  go_enter Tryz.func72, Tryz.ntmps72
  go_wp2_with (first
    | (go_at_call 86; (with_reducible refine cO.mono ?_); rintro e w1 ⟨A, c, rfl, hT, hb1⟩; have h1 := HC.out.below hb1; have HX1 := hid (hX1 A c w1 hb1 hT); have H1 := hid h1; clear h1 hT hb1)
    | (go_at_call 68; (with_reducible refine HX1.out.mono ?_); rintro e w2 ⟨rfl, hb2⟩))
  exact ⟨rfl, rfl, H1.out.kf.trans (KF.of_below (F := fun _ => False) hb2) (fun _ h => h.elim)⟩
set_option maxRecDepth 100000 in
set_option maxHeartbeats 4000000 in
theorem change_plain (s : ByteArray) (bash : Bool) (p d way : Nat) (n0 : List UInt8) (q0 : Bool) (x : List UInt8) (hxl : x.length ≤ 100) (p1 : Nat) (hX : WantX s bash p d x p1) (E : Option (Fe × Nat)) (hE : EndC s bash p1 d E) (hsel : x = [94] ∨ x = [94, 94] ∨ x = [44] ∨ x = [44, 44] ∨ x = [91, 64, 93] ∨ x = [91, 42, 93]) (B Pb : Nat) (w : World) (hcs : CS w B Pb s bash d p (brPt n0 [] q0) w) :
    Calls Tryz.prog 72 #[.pointer (some ⟨B, 0, none⟩), .pointer (some ⟨Pb, 0, none⟩), .int .i64 way] w (ChRes B Pb s bash d w (endE p1 (brPt n0 x q0) E)) := by
  have c2 := hcs.rd.c2
  have cO := ops_any bash w
  have hX1 := fun (A : Option Addr) (c : Nat) (w1 : World) (hb : Below w.heap.size w w1) (hT : TextsP w1 (fun _ => True) A (opsL bash)) => hX B A c w1 (hcs.rd.below hb) hT
  have cN := fun W => clone_any x (by omega) W
  have HC := hid hcs
  have hw : (3 : Int) ≤ (way : Int) ∨ ¬ (3 : Int) ≤ (way : Int) := by omega
  clear hX hcs hxl
  rcases E with _ | ⟨e0, q⟩
  · have hE1 : WantOk s bash p1 d [125] (p1 + 1) := hE
    rcases hsel with h | h | h | h | h | h
    · have h125 : (x == [125]) = false := by rw [h]; decide
      have h94 : (x == [94]) = true := by rw [h]; decide
      clear h
      rcases hw with hw | hw
      all_goals
        go_enter Tryz.func72, Tryz.ntmps72
        go_wp2_with (first
        | (go_at_call 86; (with_reducible refine cO.mono ?_); rintro e w1 ⟨A, c, rfl, hT, hb1⟩; have h1 := HC.out.below hb1; have HX1 := hid (hX1 A c w1 hb1 hT); have H1 := hid h1; clear h1 hT hb1)
        | (go_at_call 68; (with_reducible refine HX1.out.mono ?_); rintro e w2 ⟨rfl, hk2, hr2⟩; have H2 := hid (H1.out.kept hk2 hr2); clear hk2 hr2)
        | (go_at_call 32; (with_reducible refine (cN _).mono ?_); rintro e w3 ⟨rfl, hb3⟩; have h3 := H2.out.below hb3; have f3 := h3.f 3; have y3 := h3.c3; have H4 := hid (h3.op x); clear h3 hb3)
        | (go_at_call 68; have h8 := (H4.out).alloc (.cells #[encS [125]] 9); have hE2 := hE1 B _ h8.rd; (with_reducible refine (hE2 _ (alloc_at (by simp [World.setCell]))).mono ?_); rintro e w9 ⟨rfl, hk9, hr9⟩; have H9 := hid (h8.kept hk9 hr9); clear hk9 hr9 h8))
        go_end0
        exact ⟨rfl, _, rfl, H9.out⟩
    · have h125 : (x == [125]) = false := by rw [h]; decide
      have h94 : (x == [94]) = false := by rw [h]; decide
      have h94_94 : (x == [94, 94]) = true := by rw [h]; decide
      clear h
      rcases hw with hw | hw
      all_goals
        go_enter Tryz.func72, Tryz.ntmps72
        go_wp2_with (first
        | (go_at_call 86; (with_reducible refine cO.mono ?_); rintro e w1 ⟨A, c, rfl, hT, hb1⟩; have h1 := HC.out.below hb1; have HX1 := hid (hX1 A c w1 hb1 hT); have H1 := hid h1; clear h1 hT hb1)
        | (go_at_call 68; (with_reducible refine HX1.out.mono ?_); rintro e w2 ⟨rfl, hk2, hr2⟩; have H2 := hid (H1.out.kept hk2 hr2); clear hk2 hr2)
        | (go_at_call 32; (with_reducible refine (cN _).mono ?_); rintro e w3 ⟨rfl, hb3⟩; have h3 := H2.out.below hb3; have f3 := h3.f 3; have y3 := h3.c3; have H4 := hid (h3.op x); clear h3 hb3)
        | (go_at_call 68; have h8 := (H4.out).alloc (.cells #[encS [125]] 9); have hE2 := hE1 B _ h8.rd; (with_reducible refine (hE2 _ (alloc_at (by simp [World.setCell]))).mono ?_); rintro e w9 ⟨rfl, hk9, hr9⟩; have H9 := hid (h8.kept hk9 hr9); clear hk9 hr9 h8))
        go_end0
        exact ⟨rfl, _, rfl, H9.out⟩
    · have h125 : (x == [125]) = false := by rw [h]; decide
      have h94 : (x == [94]) = false := by rw [h]; decide
      have h94_94 : (x == [94, 94]) = false := by rw [h]; decide
      have h44 : (x == [44]) = true := by rw [h]; decide
      clear h
      rcases hw with hw | hw
      all_goals
        go_enter Tryz.func72, Tryz.ntmps72
        go_wp2_with (first
        | (go_at_call 86; (with_reducible refine cO.mono ?_); rintro e w1 ⟨A, c, rfl, hT, hb1⟩; have h1 := HC.out.below hb1; have HX1 := hid (hX1 A c w1 hb1 hT); have H1 := hid h1; clear h1 hT hb1)
        | (go_at_call 68; (with_reducible refine HX1.out.mono ?_); rintro e w2 ⟨rfl, hk2, hr2⟩; have H2 := hid (H1.out.kept hk2 hr2); clear hk2 hr2)
        | (go_at_call 32; (with_reducible refine (cN _).mono ?_); rintro e w3 ⟨rfl, hb3⟩; have h3 := H2.out.below hb3; have f3 := h3.f 3; have y3 := h3.c3; have H4 := hid (h3.op x); clear h3 hb3)
        | (go_at_call 68; have h8 := (H4.out).alloc (.cells #[encS [125]] 9); have hE2 := hE1 B _ h8.rd; (with_reducible refine (hE2 _ (alloc_at (by simp [World.setCell]))).mono ?_); rintro e w9 ⟨rfl, hk9, hr9⟩; have H9 := hid (h8.kept hk9 hr9); clear hk9 hr9 h8))
        go_end0
        exact ⟨rfl, _, rfl, H9.out⟩
    · have h125 : (x == [125]) = false := by rw [h]; decide
      have h94 : (x == [94]) = false := by rw [h]; decide
      have h94_94 : (x == [94, 94]) = false := by rw [h]; decide
      have h44 : (x == [44]) = false := by rw [h]; decide
      have h44_44 : (x == [44, 44]) = true := by rw [h]; decide
      clear h
      rcases hw with hw | hw
      all_goals
        go_enter Tryz.func72, Tryz.ntmps72
        go_wp2_with (first
        | (go_at_call 86; (with_reducible refine cO.mono ?_); rintro e w1 ⟨A, c, rfl, hT, hb1⟩; have h1 := HC.out.below hb1; have HX1 := hid (hX1 A c w1 hb1 hT); have H1 := hid h1; clear h1 hT hb1)
        | (go_at_call 68; (with_reducible refine HX1.out.mono ?_); rintro e w2 ⟨rfl, hk2, hr2⟩; have H2 := hid (H1.out.kept hk2 hr2); clear hk2 hr2)
        | (go_at_call 32; (with_reducible refine (cN _).mono ?_); rintro e w3 ⟨rfl, hb3⟩; have h3 := H2.out.below hb3; have f3 := h3.f 3; have y3 := h3.c3; have H4 := hid (h3.op x); clear h3 hb3)
        | (go_at_call 68; have h8 := (H4.out).alloc (.cells #[encS [125]] 9); have hE2 := hE1 B _ h8.rd; (with_reducible refine (hE2 _ (alloc_at (by simp [World.setCell]))).mono ?_); rintro e w9 ⟨rfl, hk9, hr9⟩; have H9 := hid (h8.kept hk9 hr9); clear hk9 hr9 h8))
        go_end0
        exact ⟨rfl, _, rfl, H9.out⟩
    · have h125 : (x == [125]) = false := by rw [h]; decide
      have h94 : (x == [94]) = false := by rw [h]; decide
      have h94_94 : (x == [94, 94]) = false := by rw [h]; decide
      have h44 : (x == [44]) = false := by rw [h]; decide
      have h44_44 : (x == [44, 44]) = false := by rw [h]; decide
      have h91_64_93 : (x == [91, 64, 93]) = true := by rw [h]; decide
      clear h
      rcases hw with hw | hw
      all_goals
        go_enter Tryz.func72, Tryz.ntmps72
        go_wp2_with (first
        | (go_at_call 86; (with_reducible refine cO.mono ?_); rintro e w1 ⟨A, c, rfl, hT, hb1⟩; have h1 := HC.out.below hb1; have HX1 := hid (hX1 A c w1 hb1 hT); have H1 := hid h1; clear h1 hT hb1)
        | (go_at_call 68; (with_reducible refine HX1.out.mono ?_); rintro e w2 ⟨rfl, hk2, hr2⟩; have H2 := hid (H1.out.kept hk2 hr2); clear hk2 hr2)
        | (go_at_call 32; (with_reducible refine (cN _).mono ?_); rintro e w3 ⟨rfl, hb3⟩; have h3 := H2.out.below hb3; have f3 := h3.f 3; have y3 := h3.c3; have H4 := hid (h3.op x); clear h3 hb3)
        | (go_at_call 68; have h8 := (H4.out).alloc (.cells #[encS [125]] 9); have hE2 := hE1 B _ h8.rd; (with_reducible refine (hE2 _ (alloc_at (by simp [World.setCell]))).mono ?_); rintro e w9 ⟨rfl, hk9, hr9⟩; have H9 := hid (h8.kept hk9 hr9); clear hk9 hr9 h8))
        go_end0
        exact ⟨rfl, _, rfl, H9.out⟩
    · have h125 : (x == [125]) = false := by rw [h]; decide
      have h94 : (x == [94]) = false := by rw [h]; decide
      have h94_94 : (x == [94, 94]) = false := by rw [h]; decide
      have h44 : (x == [44]) = false := by rw [h]; decide
      have h44_44 : (x == [44, 44]) = false := by rw [h]; decide
      have h91_64_93 : (x == [91, 64, 93]) = false := by rw [h]; decide
      have h91_42_93 : (x == [91, 42, 93]) = true := by rw [h]; decide
      clear h
      rcases hw with hw | hw
      all_goals
        go_enter Tryz.func72, Tryz.ntmps72
        go_wp2_with (first
        | (go_at_call 86; (with_reducible refine cO.mono ?_); rintro e w1 ⟨A, c, rfl, hT, hb1⟩; have h1 := HC.out.below hb1; have HX1 := hid (hX1 A c w1 hb1 hT); have H1 := hid h1; clear h1 hT hb1)
        | (go_at_call 68; (with_reducible refine HX1.out.mono ?_); rintro e w2 ⟨rfl, hk2, hr2⟩; have H2 := hid (H1.out.kept hk2 hr2); clear hk2 hr2)
        | (go_at_call 32; (with_reducible refine (cN _).mono ?_); rintro e w3 ⟨rfl, hb3⟩; have h3 := H2.out.below hb3; have f3 := h3.f 3; have y3 := h3.c3; have H4 := hid (h3.op x); clear h3 hb3)
        | (go_at_call 68; have h8 := (H4.out).alloc (.cells #[encS [125]] 9); have hE2 := hE1 B _ h8.rd; (with_reducible refine (hE2 _ (alloc_at (by simp [World.setCell]))).mono ?_); rintro e w9 ⟨rfl, hk9, hr9⟩; have H9 := hid (h8.kept hk9 hr9); clear hk9 hr9 h8))
        go_end0
        exact ⟨rfl, _, rfl, H9.out⟩
  · have hE1 : WantBad s bash p1 d [125] e0 q := hE
    rcases hsel with h | h | h | h | h | h
    · have h125 : (x == [125]) = false := by rw [h]; decide
      have h94 : (x == [94]) = true := by rw [h]; decide
      clear h
      rcases hw with hw | hw
      all_goals
        go_enter Tryz.func72, Tryz.ntmps72
        go_wp2_with (first
        | (go_at_call 86; (with_reducible refine cO.mono ?_); rintro e w1 ⟨A, c, rfl, hT, hb1⟩; have h1 := HC.out.below hb1; have HX1 := hid (hX1 A c w1 hb1 hT); have H1 := hid h1; clear h1 hT hb1)
        | (go_at_call 68; (with_reducible refine HX1.out.mono ?_); rintro e w2 ⟨rfl, hk2, hr2⟩; have H2 := hid (H1.out.kept hk2 hr2); clear hk2 hr2)
        | (go_at_call 32; (with_reducible refine (cN _).mono ?_); rintro e w3 ⟨rfl, hb3⟩; have h3 := H2.out.below hb3; have f3 := h3.f 3; have y3 := h3.c3; have H4 := hid (h3.op x); clear h3 hb3)
        | (go_at_call 68; have h8 := (H4.out).alloc (.cells #[encS [125]] 9); have hE2 := hE1 B _ h8.rd; (with_reducible refine (hE2 _ (alloc_at (by simp [World.setCell]))).mono ?_); rintro e w9 ⟨rfl, hb9⟩; have H9 := hid (h8.kf.trans (KF.of_below (F := fun _ => False) hb9) (fun _ h => h.elim)); clear hb9 h8))
        exact ⟨rfl, rfl, H9.out⟩
    · have h125 : (x == [125]) = false := by rw [h]; decide
      have h94 : (x == [94]) = false := by rw [h]; decide
      have h94_94 : (x == [94, 94]) = true := by rw [h]; decide
      clear h
      rcases hw with hw | hw
      all_goals
        go_enter Tryz.func72, Tryz.ntmps72
        go_wp2_with (first
        | (go_at_call 86; (with_reducible refine cO.mono ?_); rintro e w1 ⟨A, c, rfl, hT, hb1⟩; have h1 := HC.out.below hb1; have HX1 := hid (hX1 A c w1 hb1 hT); have H1 := hid h1; clear h1 hT hb1)
        | (go_at_call 68; (with_reducible refine HX1.out.mono ?_); rintro e w2 ⟨rfl, hk2, hr2⟩; have H2 := hid (H1.out.kept hk2 hr2); clear hk2 hr2)
        | (go_at_call 32; (with_reducible refine (cN _).mono ?_); rintro e w3 ⟨rfl, hb3⟩; have h3 := H2.out.below hb3; have f3 := h3.f 3; have y3 := h3.c3; have H4 := hid (h3.op x); clear h3 hb3)
        | (go_at_call 68; have h8 := (H4.out).alloc (.cells #[encS [125]] 9); have hE2 := hE1 B _ h8.rd; (with_reducible refine (hE2 _ (alloc_at (by simp [World.setCell]))).mono ?_); rintro e w9 ⟨rfl, hb9⟩; have H9 := hid (h8.kf.trans (KF.of_below (F := fun _ => False) hb9) (fun _ h => h.elim)); clear hb9 h8))
        exact ⟨rfl, rfl, H9.out⟩
    · have h125 : (x == [125]) = false := by rw [h]; decide
      have h94 : (x == [94]) = false := by rw [h]; decide
      have h94_94 : (x == [94, 94]) = false := by rw [h]; decide
      have h44 : (x == [44]) = true := by rw [h]; decide
      clear h
      rcases hw with hw | hw
      all_goals
        go_enter Tryz.func72, Tryz.ntmps72
        go_wp2_with (first
        | (go_at_call 86; (with_reducible refine cO.mono ?_); rintro e w1 ⟨A, c, rfl, hT, hb1⟩; have h1 := HC.out.below hb1; have HX1 := hid (hX1 A c w1 hb1 hT); have H1 := hid h1; clear h1 hT hb1)
        | (go_at_call 68; (with_reducible refine HX1.out.mono ?_); rintro e w2 ⟨rfl, hk2, hr2⟩; have H2 := hid (H1.out.kept hk2 hr2); clear hk2 hr2)
        | (go_at_call 32; (with_reducible refine (cN _).mono ?_); rintro e w3 ⟨rfl, hb3⟩; have h3 := H2.out.below hb3; have f3 := h3.f 3; have y3 := h3.c3; have H4 := hid (h3.op x); clear h3 hb3)
        | (go_at_call 68; have h8 := (H4.out).alloc (.cells #[encS [125]] 9); have hE2 := hE1 B _ h8.rd; (with_reducible refine (hE2 _ (alloc_at (by simp [World.setCell]))).mono ?_); rintro e w9 ⟨rfl, hb9⟩; have H9 := hid (h8.kf.trans (KF.of_below (F := fun _ => False) hb9) (fun _ h => h.elim)); clear hb9 h8))
        exact ⟨rfl, rfl, H9.out⟩
    · have h125 : (x == [125]) = false := by rw [h]; decide
      have h94 : (x == [94]) = false := by rw [h]; decide
      have h94_94 : (x == [94, 94]) = false := by rw [h]; decide
      have h44 : (x == [44]) = false := by rw [h]; decide
      have h44_44 : (x == [44, 44]) = true := by rw [h]; decide
      clear h
      rcases hw with hw | hw
      all_goals
        go_enter Tryz.func72, Tryz.ntmps72
        go_wp2_with (first
        | (go_at_call 86; (with_reducible refine cO.mono ?_); rintro e w1 ⟨A, c, rfl, hT, hb1⟩; have h1 := HC.out.below hb1; have HX1 := hid (hX1 A c w1 hb1 hT); have H1 := hid h1; clear h1 hT hb1)
        | (go_at_call 68; (with_reducible refine HX1.out.mono ?_); rintro e w2 ⟨rfl, hk2, hr2⟩; have H2 := hid (H1.out.kept hk2 hr2); clear hk2 hr2)
        | (go_at_call 32; (with_reducible refine (cN _).mono ?_); rintro e w3 ⟨rfl, hb3⟩; have h3 := H2.out.below hb3; have f3 := h3.f 3; have y3 := h3.c3; have H4 := hid (h3.op x); clear h3 hb3)
        | (go_at_call 68; have h8 := (H4.out).alloc (.cells #[encS [125]] 9); have hE2 := hE1 B _ h8.rd; (with_reducible refine (hE2 _ (alloc_at (by simp [World.setCell]))).mono ?_); rintro e w9 ⟨rfl, hb9⟩; have H9 := hid (h8.kf.trans (KF.of_below (F := fun _ => False) hb9) (fun _ h => h.elim)); clear hb9 h8))
        exact ⟨rfl, rfl, H9.out⟩
    · have h125 : (x == [125]) = false := by rw [h]; decide
      have h94 : (x == [94]) = false := by rw [h]; decide
      have h94_94 : (x == [94, 94]) = false := by rw [h]; decide
      have h44 : (x == [44]) = false := by rw [h]; decide
      have h44_44 : (x == [44, 44]) = false := by rw [h]; decide
      have h91_64_93 : (x == [91, 64, 93]) = true := by rw [h]; decide
      clear h
      rcases hw with hw | hw
      all_goals
        go_enter Tryz.func72, Tryz.ntmps72
        go_wp2_with (first
        | (go_at_call 86; (with_reducible refine cO.mono ?_); rintro e w1 ⟨A, c, rfl, hT, hb1⟩; have h1 := HC.out.below hb1; have HX1 := hid (hX1 A c w1 hb1 hT); have H1 := hid h1; clear h1 hT hb1)
        | (go_at_call 68; (with_reducible refine HX1.out.mono ?_); rintro e w2 ⟨rfl, hk2, hr2⟩; have H2 := hid (H1.out.kept hk2 hr2); clear hk2 hr2)
        | (go_at_call 32; (with_reducible refine (cN _).mono ?_); rintro e w3 ⟨rfl, hb3⟩; have h3 := H2.out.below hb3; have f3 := h3.f 3; have y3 := h3.c3; have H4 := hid (h3.op x); clear h3 hb3)
        | (go_at_call 68; have h8 := (H4.out).alloc (.cells #[encS [125]] 9); have hE2 := hE1 B _ h8.rd; (with_reducible refine (hE2 _ (alloc_at (by simp [World.setCell]))).mono ?_); rintro e w9 ⟨rfl, hb9⟩; have H9 := hid (h8.kf.trans (KF.of_below (F := fun _ => False) hb9) (fun _ h => h.elim)); clear hb9 h8))
        exact ⟨rfl, rfl, H9.out⟩
    · have h125 : (x == [125]) = false := by rw [h]; decide
      have h94 : (x == [94]) = false := by rw [h]; decide
      have h94_94 : (x == [94, 94]) = false := by rw [h]; decide
      have h44 : (x == [44]) = false := by rw [h]; decide
      have h44_44 : (x == [44, 44]) = false := by rw [h]; decide
      have h91_64_93 : (x == [91, 64, 93]) = false := by rw [h]; decide
      have h91_42_93 : (x == [91, 42, 93]) = true := by rw [h]; decide
      clear h
      rcases hw with hw | hw
      all_goals
        go_enter Tryz.func72, Tryz.ntmps72
        go_wp2_with (first
        | (go_at_call 86; (with_reducible refine cO.mono ?_); rintro e w1 ⟨A, c, rfl, hT, hb1⟩; have h1 := HC.out.below hb1; have HX1 := hid (hX1 A c w1 hb1 hT); have H1 := hid h1; clear h1 hT hb1)
        | (go_at_call 68; (with_reducible refine HX1.out.mono ?_); rintro e w2 ⟨rfl, hk2, hr2⟩; have H2 := hid (H1.out.kept hk2 hr2); clear hk2 hr2)
        | (go_at_call 32; (with_reducible refine (cN _).mono ?_); rintro e w3 ⟨rfl, hb3⟩; have h3 := H2.out.below hb3; have f3 := h3.f 3; have y3 := h3.c3; have H4 := hid (h3.op x); clear h3 hb3)
        | (go_at_call 68; have h8 := (H4.out).alloc (.cells #[encS [125]] 9); have hE2 := hE1 B _ h8.rd; (with_reducible refine (hE2 _ (alloc_at (by simp [World.setCell]))).mono ?_); rintro e w9 ⟨rfl, hb9⟩; have H9 := hid (h8.kf.trans (KF.of_below (F := fun _ => False) hb9) (fun _ h => h.elim)); clear hb9 h8))
        exact ⟨rfl, rfl, H9.out⟩
end Go.Proofs.YtialepcdbpofkaaGreat
