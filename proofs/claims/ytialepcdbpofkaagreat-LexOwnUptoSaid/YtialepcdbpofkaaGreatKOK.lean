/- What the statement of Own13Said leans on, part 11: LyR, LyS, AoM, AoA, AoB, AoC. Conditions: each theorem's own. -/
import Derived.Test.YtialepcdbpofkaaGreatKOJ
namespace Go.Proofs.YtialepcdbpofkaaGreat
open Go.RowKit
open Go.Lib (hid)
def NameOk (s : ByteArray) (bash : Bool) (p d most n : Nat) : Prop := ∀ (B : Nat) (w : World), LRd w B s bash p d → Calls Tryz.prog 62 #[.pointer (some ⟨B, 0, none⟩), .int .i64 most] w fun e w' => e = .returned (encS ((s.data.toList.drop p).take n)) ∧ KF (fun k => k = B) w w' ∧ LRd w' B s bash (p + n) d
def NameBad (s : ByteArray) (bash : Bool) (p d most : Nat) (e0 : Fe) (q : Nat) : Prop := ∀ (B : Nat) (w : World), LRd w B s bash p d → Calls Tryz.prog 62 #[.pointer (some ⟨B, 0, none⟩), .int .i64 most] w fun e w' => e = .panicked [faultL e0 q] ∧ Below w.heap.size w w'
theorem name_res (most : Nat) (s : ByteArray) (bash : Bool) (p d : Nat) (hs : s.size ≤ 137438953472) (hp : p ≤ s.size) (hm : most ≤ 281474976710656) :
    (∃ n, 0 < n ∧ p + n ≤ s.size ∧ NameOk s bash p d most n) ∨ ∃ e0 q, e0.e ≠ 0 ∧ NameBad s bash p d most e0 q := by
  by_cases hpe : p = s.size
  · subst hpe
    exact .inr ⟨8, s.size, by decide, fun B w hr => name_short most s bash d (by omega) hm B w hr⟩
  obtain ⟨n, hn⟩ : ∃ n, namedN (s.data.toList.drop p) most = n := ⟨_, rfl⟩
  have hle := namedN_le (s.data.toList.drop p) most
  rw [hn, List.length_drop, len_toList] at hle
  by_cases h0 : n = 0
  · subst h0
    exact .inr ⟨33, p, by decide, fun B w hr => name_syn most s bash p d (by omega) (by omega) hm hn B w hr⟩
  by_cases h64 : n ≤ 64
  · exact .inl ⟨n, by omega, by omega, fun B w hr => name_ok most n s bash p d (by omega) hp hm hn (by omega) h64 B w hr⟩
  · by_cases hall : ((s.data.toList.drop p).take n).all (fun c => digitB c.toNat) = true
    · exact .inl ⟨n, by omega, by omega, fun B w hr => name_digits most n s bash p d (by omega) hp hm hn (by omega) hall (by omega) B w hr⟩
    · exact .inr ⟨5, p, by decide, fun B w hr => name_long most n s bash p d (by omega) hp hm hn (by omega) (by simpa using hall) (by omega) B w hr⟩
def ChAt (s : ByteArray) (bash : Bool) (p d way : Nat) (n0 : List UInt8) (q0 : Bool) (r : Except (Fe × Nat) (Nat × Pt)) : Prop := ∀ (B Pb : Nat) (w : World), CS w B Pb s bash d p (brPt n0 [] q0) w →
  Calls Tryz.prog 72 #[.pointer (some ⟨B, 0, none⟩), .pointer (some ⟨Pb, 0, none⟩), .int .i64 way] w (ChRes B Pb s bash d w r)
theorem CS.c2 {w W : World} {B Pb d p : Nat} {s : ByteArray} {bash : Bool} {pt : Pt} (h : CS w B Pb s bash d p pt W) : W.cell? ⟨Pb, 2, none⟩ = some (encS pt.name) := by rw [Lib.cell_of_heap h.box]; rfl
theorem CS.nmset {w W : World} {B Pb d p : Nat} {s : ByteArray} {bash : Bool} {pt : Pt} (h : CS w B Pb s bash d p pt W) (x : List UInt8) : CS w B Pb s bash d p { pt with name := x } (W.setCell ⟨Pb, 2, none⟩ (encS x)) := h.setc 2 _ rfl
theorem CS.trans {w W W' : World} {B Pb d p p' : Nat} {s : ByteArray} {bash : Bool} {pt pt' : Pt} (h : CS w B Pb s bash d p pt W) (k : CS W B Pb s bash d p' pt' W') : CS w B Pb s bash d p' pt' W' := ⟨k.box, k.rd, h.kf.trans k.kf (fun _ hg => .inl hg), k.ne⟩
theorem CS.self {w W : World} {B Pb d p : Nat} {s : ByteArray} {bash : Bool} {pt : Pt} (h : CS w B Pb s bash d p pt W) : CS W B Pb s bash d p pt W := ⟨h.box, h.rd, KF.refl _ _, h.ne⟩
set_option maxRecDepth 100000 in
set_option maxHeartbeats 4000000 in
theorem braces_nbad (s : ByteArray) (bash : Bool) (p d way : Nat) (q0 : Bool) (hq : decide (3 ≤ way) = q0) (hs : s.size ≤ 137438953472) (hp : p + 2 ≤ s.size) (hcl : countedL (s.data.toList.drop (p + 2)) = false) (e0 : Fe) (q : Nat) (hN : NameBad s bash (p + 2) d s.size e0 q) (B : Nat) (w : World) (hr : LRd w B s bash p d) :
    Calls Tryz.prog 59 #[.pointer (some ⟨B, 0, none⟩), .int .i64 way] w (PartBad B w e0 q) := by
  have hBw := hr.lt
  have hb0 : Below w.heap.size w (w.alloc zeroO) := (Below.refl _ _).alloc (Nat.le_refl _) _
  have hr0 := hr.below hb0
  have c1 := hr0.c1
  have f1 := hr0.free 1
  have hp0 : (0 : Int) ≤ (p : Int) := by omega
  have hsi : (s.size : Int) ≤ 137438953472 := by omega
  have hpi : (p : Int) + 2 ≤ (s.size : Int) := by omega
  have hqi : decide ((3 : Int) ≤ (way : Int)) = q0 := by rw [← hq]; simp; omega
  have hp2 : ((p + 2 : Nat) : Int) = (p : Int) + 2 := by omega
  have hr1 : LRd (w.setCell ⟨B, 1, none⟩ (.int .i64 ((p : Int) + 2))) B s bash (p + 2) d := by
    have := hr.at_ (p + 2)
    rw [hp2] at this
    exact this
  have hr2 : LRd ((w.setCell ⟨B, 1, none⟩ (.int .i64 ((p : Int) + 2))).alloc zeroO) B s bash (p + 2) d := hr1.below ((Below.refl _ _).alloc (Nat.le_refl _) _)
  have hz1 : ((w.setCell ⟨B, 1, none⟩ (.int .i64 ((p : Int) + 2))).alloc zeroO).heap[w.heap.size]? = some zeroO := alloc_at (by simp [World.setCell])
  have hk1 : KF (fun k => k = B) w ((w.setCell ⟨B, 1, none⟩ (.int .i64 ((p : Int) + 2))).alloc zeroO) := ((KF.refl (fun k => k = B) w).set (.inl rfl) 1 _).alloc _
  have hsz1 : ((w.setCell ⟨B, 1, none⟩ (.int .i64 ((p : Int) + 2))).alloc zeroO).heap.size = w.heap.size + 1 := by rw [World.size_alloc]; simp [World.setCell]
  -- the world with the part's variable in it
  obtain ⟨W2, hW2⟩ : ∃ W2, ((w.setCell ⟨B, 1, none⟩ (.int .i64 ((p : Int) + 2))).alloc zeroO).alloc (.cells (cellsPt (brPt [] [] q0)).toArray 34) = W2 := ⟨_, rfl⟩
  have hcs : CS W2 B (w.heap.size + 1) s bash d (p + 2) (brPt [] [] q0) W2 := by
    rw [← hW2]
    exact ⟨alloc_at hsz1, hr2.below ((Below.refl _ _).alloc (Nat.le_refl _) _), KF.refl _ _, by omega⟩
  have hkW : KF (fun k => k = B) w W2 := by rw [← hW2]; exact hk1.alloc _
  have hzW : W2.heap[w.heap.size]? = some zeroO := by rw [← hW2]; exact (Below.heap_alloc _ _ _ (by rw [hsz1]; omega)).trans hz1
  have cT := counted_any s bash (p + 2) d (by omega) (by omega) B W2 hcs.rd
  have HC := hid hcs
  have HW := hid (And.intro hkW hzW)
  -- out of the state of the part's variable behind it all
  have HF : Hid (∀ (p' : Nat) (pt : Pt) (W : World), CS W2 B (w.heap.size + 1) s bash d p' pt W → PartPost B s bash p' d w (shP pt) (.returned (aggP pt)) (W.setRow w.heap.size (cellsPt pt).toArray)) := hid fun p' pt W h => by
    refine ⟨pt, rfl, rfl, ?_, LRd.row h.rd (by omega) _⟩
    have hkk : KF (fun k => k = B) w W := ⟨h.kf.os.trans hkW.os, h.kf.tape.trans hkW.tape, h.kf.output.trans hkW.output, Nat.le_trans hkW.size h.kf.size, fun i hi hn => (h.kf.block i (Nat.lt_of_lt_of_le hi hkW.size) (by omega)).trans (hkW.block i hi hn)⟩
    exact hkk.row (.inr (Nat.le_refl _)) _
  have HZ : Hid (∀ (p' : Nat) (pt : Pt) (W : World), CS W2 B (w.heap.size + 1) s bash d p' pt W → W.heap[w.heap.size]? = some zeroO) := hid fun p' pt W h => (h.kf.block _ (lt_of_block hzW) (by omega)).trans hzW
  have HB : Hid (∀ (W : World), KF (fun k => k = B ∨ k = w.heap.size + 1) W2 W → KF (fun k => k = B) w W) := hid fun W h => ⟨h.os.trans hkW.os, h.tape.trans hkW.tape, h.output.trans hkW.output, Nat.le_trans hkW.size h.size, fun i hi hn => (h.block i (Nat.lt_of_lt_of_le hi hkW.size) (by omega)).trans (hkW.block i hi hn)⟩
  rw [hcl] at cT
  clear hr hb0 hr0 hr1 hr2 hz1 hk1 hsz1 hcs hkW hzW hcl hq
  go_enter Tryz.func59, Tryz.ntmps59
  go_wp2_with (first
    | (go_at_call 70; change Calls _ _ _ (World.alloc _ (.cells (cellsPt (brPt [] [] q0)).toArray 34)) _; rw [hW2]; (with_reducible refine cT.mono ?_); rintro e w3 ⟨rfl, n3, rfl⟩; have h3 := HC.out.drewN n3; have u0 := h3.rd.c0; have u1 := h3.rd.c1; have u2 := h3.rd.free 1; have H3 := hid h3; clear h3)
    | (go_at_call 62; have hN2 := hN B _ H3.out.rd; (with_reducible refine hN2.mono ?_); rintro e w4 ⟨rfl, hb4⟩))
  exact ⟨rfl, rfl, HB.out _ (H3.out.kf.trans (KF.of_below (F := fun _ => False) hb4) (fun _ h => h.elim))⟩
set_option maxRecDepth 100000 in
set_option maxHeartbeats 4000000 in
theorem braces_cbad (s : ByteArray) (bash : Bool) (p d way : Nat) (q0 : Bool) (hq : decide (3 ≤ way) = q0) (hs : s.size ≤ 137438953472) (hp : p + 2 ≤ s.size) (hcl : countedL (s.data.toList.drop (p + 2)) = false) (n : Nat) (nm : List UInt8) (hnm : (s.data.toList.drop (p + 2)).take n = nm) (hN : NameOk s bash (p + 2) d s.size n) (e0 : Fe) (q : Nat) (hC : ChAt s bash (p + 2 + n) d way nm q0 (.error (e0, q))) (B : Nat) (w : World) (hr : LRd w B s bash p d) :
    Calls Tryz.prog 59 #[.pointer (some ⟨B, 0, none⟩), .int .i64 way] w (PartBad B w e0 q) := by
  have hBw := hr.lt
  have hb0 : Below w.heap.size w (w.alloc zeroO) := (Below.refl _ _).alloc (Nat.le_refl _) _
  have hr0 := hr.below hb0
  have c1 := hr0.c1
  have f1 := hr0.free 1
  have hp0 : (0 : Int) ≤ (p : Int) := by omega
  have hsi : (s.size : Int) ≤ 137438953472 := by omega
  have hpi : (p : Int) + 2 ≤ (s.size : Int) := by omega
  have hqi : decide ((3 : Int) ≤ (way : Int)) = q0 := by rw [← hq]; simp; omega
  have hp2 : ((p + 2 : Nat) : Int) = (p : Int) + 2 := by omega
  have hr1 : LRd (w.setCell ⟨B, 1, none⟩ (.int .i64 ((p : Int) + 2))) B s bash (p + 2) d := by
    have := hr.at_ (p + 2)
    rw [hp2] at this
    exact this
  have hr2 : LRd ((w.setCell ⟨B, 1, none⟩ (.int .i64 ((p : Int) + 2))).alloc zeroO) B s bash (p + 2) d := hr1.below ((Below.refl _ _).alloc (Nat.le_refl _) _)
  have hz1 : ((w.setCell ⟨B, 1, none⟩ (.int .i64 ((p : Int) + 2))).alloc zeroO).heap[w.heap.size]? = some zeroO := alloc_at (by simp [World.setCell])
  have hk1 : KF (fun k => k = B) w ((w.setCell ⟨B, 1, none⟩ (.int .i64 ((p : Int) + 2))).alloc zeroO) := ((KF.refl (fun k => k = B) w).set (.inl rfl) 1 _).alloc _
  have hsz1 : ((w.setCell ⟨B, 1, none⟩ (.int .i64 ((p : Int) + 2))).alloc zeroO).heap.size = w.heap.size + 1 := by rw [World.size_alloc]; simp [World.setCell]
  -- the world with the part's variable in it
  obtain ⟨W2, hW2⟩ : ∃ W2, ((w.setCell ⟨B, 1, none⟩ (.int .i64 ((p : Int) + 2))).alloc zeroO).alloc (.cells (cellsPt (brPt [] [] q0)).toArray 34) = W2 := ⟨_, rfl⟩
  have hcs : CS W2 B (w.heap.size + 1) s bash d (p + 2) (brPt [] [] q0) W2 := by
    rw [← hW2]
    exact ⟨alloc_at hsz1, hr2.below ((Below.refl _ _).alloc (Nat.le_refl _) _), KF.refl _ _, by omega⟩
  have hkW : KF (fun k => k = B) w W2 := by rw [← hW2]; exact hk1.alloc _
  have hzW : W2.heap[w.heap.size]? = some zeroO := by rw [← hW2]; exact (Below.heap_alloc _ _ _ (by rw [hsz1]; omega)).trans hz1
  have cT := counted_any s bash (p + 2) d (by omega) (by omega) B W2 hcs.rd
  have HC := hid hcs
  have hN := fun (W : World) (hr : LRd W B s bash (p + 2) d) => hN B W hr
  rw [hnm] at hN
  have HW := hid (And.intro hkW hzW)
  -- out of the state of the part's variable behind it all
  have HF : Hid (∀ (p' : Nat) (pt : Pt) (W : World), CS W2 B (w.heap.size + 1) s bash d p' pt W → PartPost B s bash p' d w (shP pt) (.returned (aggP pt)) (W.setRow w.heap.size (cellsPt pt).toArray)) := hid fun p' pt W h => by
    refine ⟨pt, rfl, rfl, ?_, LRd.row h.rd (by omega) _⟩
    have hkk : KF (fun k => k = B) w W := ⟨h.kf.os.trans hkW.os, h.kf.tape.trans hkW.tape, h.kf.output.trans hkW.output, Nat.le_trans hkW.size h.kf.size, fun i hi hn => (h.kf.block i (Nat.lt_of_lt_of_le hi hkW.size) (by omega)).trans (hkW.block i hi hn)⟩
    exact hkk.row (.inr (Nat.le_refl _)) _
  have HZ : Hid (∀ (p' : Nat) (pt : Pt) (W : World), CS W2 B (w.heap.size + 1) s bash d p' pt W → W.heap[w.heap.size]? = some zeroO) := hid fun p' pt W h => (h.kf.block _ (lt_of_block hzW) (by omega)).trans hzW
  have HB : Hid (∀ (W : World), KF (fun k => k = B ∨ k = w.heap.size + 1) W2 W → KF (fun k => k = B) w W) := hid fun W h => ⟨h.os.trans hkW.os, h.tape.trans hkW.tape, h.output.trans hkW.output, Nat.le_trans hkW.size h.size, fun i hi hn => (h.block i (Nat.lt_of_lt_of_le hi hkW.size) (by omega)).trans (hkW.block i hi hn)⟩
  rw [hcl] at cT
  clear hr hb0 hr0 hr1 hr2 hz1 hk1 hsz1 hcs hkW hzW hcl hq
  go_enter Tryz.func59, Tryz.ntmps59
  go_wp2_with (first
    | (go_at_call 70; change Calls _ _ _ (World.alloc _ (.cells (cellsPt (brPt [] [] q0)).toArray 34)) _; rw [hW2]; (with_reducible refine cT.mono ?_); rintro e w3 ⟨rfl, n3, rfl⟩; have h3 := HC.out.drewN n3; have u0 := h3.rd.c0; have u1 := h3.rd.c1; have u2 := h3.rd.free 1; have H3 := hid h3; clear h3)
    | (go_at_call 62; have hN2 := hN _ H3.out.rd; (with_reducible refine hN2.mono ?_); rintro e w4 ⟨rfl, hk4, hr4⟩; have h4 := CS.kept H3.out hk4 hr4; have f42 := h4.f 2; have y42 := h4.c2; have H5 := hid (h4.nmset nm); clear h4 hk4 hr4)
    | (go_at_call 72; have hC2 := hC B _ _ H5.out.self; (with_reducible refine hC2.mono ?_); rintro e w6 ⟨rfl, hk6⟩))
  exact ⟨rfl, rfl, HB.out _ (H5.out.kf.trans hk6 (fun _ hg => .inl hg))⟩
set_option maxRecDepth 100000 in
set_option maxHeartbeats 4000000 in
theorem braces_cok (s : ByteArray) (bash : Bool) (p d way : Nat) (q0 : Bool) (hq : decide (3 ≤ way) = q0) (hs : s.size ≤ 137438953472) (hp : p + 2 ≤ s.size) (hcl : countedL (s.data.toList.drop (p + 2)) = false) (n : Nat) (nm : List UInt8) (hnm : (s.data.toList.drop (p + 2)).take n = nm) (hN : NameOk s bash (p + 2) d s.size n) (p2 : Nat) (pt0 : Pt) (hC : ChAt s bash (p + 2 + n) d way nm q0 (.ok (p2, pt0))) (B : Nat) (w : World) (hr : LRd w B s bash p d) :
    Calls Tryz.prog 59 #[.pointer (some ⟨B, 0, none⟩), .int .i64 way] w (PartPost B s bash p2 d w pt0) := by
  have hBw := hr.lt
  have hb0 : Below w.heap.size w (w.alloc zeroO) := (Below.refl _ _).alloc (Nat.le_refl _) _
  have hr0 := hr.below hb0
  have c1 := hr0.c1
  have f1 := hr0.free 1
  have hp0 : (0 : Int) ≤ (p : Int) := by omega
  have hsi : (s.size : Int) ≤ 137438953472 := by omega
  have hpi : (p : Int) + 2 ≤ (s.size : Int) := by omega
  have hqi : decide ((3 : Int) ≤ (way : Int)) = q0 := by rw [← hq]; simp; omega
  have hp2 : ((p + 2 : Nat) : Int) = (p : Int) + 2 := by omega
  have hr1 : LRd (w.setCell ⟨B, 1, none⟩ (.int .i64 ((p : Int) + 2))) B s bash (p + 2) d := by
    have := hr.at_ (p + 2)
    rw [hp2] at this
    exact this
  have hr2 : LRd ((w.setCell ⟨B, 1, none⟩ (.int .i64 ((p : Int) + 2))).alloc zeroO) B s bash (p + 2) d := hr1.below ((Below.refl _ _).alloc (Nat.le_refl _) _)
  have hz1 : ((w.setCell ⟨B, 1, none⟩ (.int .i64 ((p : Int) + 2))).alloc zeroO).heap[w.heap.size]? = some zeroO := alloc_at (by simp [World.setCell])
  have hk1 : KF (fun k => k = B) w ((w.setCell ⟨B, 1, none⟩ (.int .i64 ((p : Int) + 2))).alloc zeroO) := ((KF.refl (fun k => k = B) w).set (.inl rfl) 1 _).alloc _
  have hsz1 : ((w.setCell ⟨B, 1, none⟩ (.int .i64 ((p : Int) + 2))).alloc zeroO).heap.size = w.heap.size + 1 := by rw [World.size_alloc]; simp [World.setCell]
  -- the world with the part's variable in it
  obtain ⟨W2, hW2⟩ : ∃ W2, ((w.setCell ⟨B, 1, none⟩ (.int .i64 ((p : Int) + 2))).alloc zeroO).alloc (.cells (cellsPt (brPt [] [] q0)).toArray 34) = W2 := ⟨_, rfl⟩
  have hcs : CS W2 B (w.heap.size + 1) s bash d (p + 2) (brPt [] [] q0) W2 := by
    rw [← hW2]
    exact ⟨alloc_at hsz1, hr2.below ((Below.refl _ _).alloc (Nat.le_refl _) _), KF.refl _ _, by omega⟩
  have hkW : KF (fun k => k = B) w W2 := by rw [← hW2]; exact hk1.alloc _
  have hzW : W2.heap[w.heap.size]? = some zeroO := by rw [← hW2]; exact (Below.heap_alloc _ _ _ (by rw [hsz1]; omega)).trans hz1
  have cT := counted_any s bash (p + 2) d (by omega) (by omega) B W2 hcs.rd
  have HC := hid hcs
  have hN := fun (W : World) (hr : LRd W B s bash (p + 2) d) => hN B W hr
  rw [hnm] at hN
  have HW := hid (And.intro hkW hzW)
  -- out of the state of the part's variable behind it all
  have HF : Hid (∀ (p' : Nat) (pt : Pt) (W : World), CS W2 B (w.heap.size + 1) s bash d p' pt W → PartPost B s bash p' d w (shP pt) (.returned (aggP pt)) (W.setRow w.heap.size (cellsPt pt).toArray)) := hid fun p' pt W h => by
    refine ⟨pt, rfl, rfl, ?_, LRd.row h.rd (by omega) _⟩
    have hkk : KF (fun k => k = B) w W := ⟨h.kf.os.trans hkW.os, h.kf.tape.trans hkW.tape, h.kf.output.trans hkW.output, Nat.le_trans hkW.size h.kf.size, fun i hi hn => (h.kf.block i (Nat.lt_of_lt_of_le hi hkW.size) (by omega)).trans (hkW.block i hi hn)⟩
    exact hkk.row (.inr (Nat.le_refl _)) _
  have HZ : Hid (∀ (p' : Nat) (pt : Pt) (W : World), CS W2 B (w.heap.size + 1) s bash d p' pt W → W.heap[w.heap.size]? = some zeroO) := hid fun p' pt W h => (h.kf.block _ (lt_of_block hzW) (by omega)).trans hzW
  have HB : Hid (∀ (W : World), KF (fun k => k = B ∨ k = w.heap.size + 1) W2 W → KF (fun k => k = B) w W) := hid fun W h => ⟨h.os.trans hkW.os, h.tape.trans hkW.tape, h.output.trans hkW.output, Nat.le_trans hkW.size h.size, fun i hi hn => (h.block i (Nat.lt_of_lt_of_le hi hkW.size) (by omega)).trans (hkW.block i hi hn)⟩
  rw [hcl] at cT
  clear hr hb0 hr0 hr1 hr2 hz1 hk1 hsz1 hcs hkW hzW hcl hq
  go_enter Tryz.func59, Tryz.ntmps59
  go_wp2_with (first
    | (go_at_call 70; change Calls _ _ _ (World.alloc _ (.cells (cellsPt (brPt [] [] q0)).toArray 34)) _; rw [hW2]; (with_reducible refine cT.mono ?_); rintro e w3 ⟨rfl, n3, rfl⟩; have h3 := HC.out.drewN n3; have u0 := h3.rd.c0; have u1 := h3.rd.c1; have u2 := h3.rd.free 1; have H3 := hid h3; clear h3)
    | (go_at_call 62; have hN2 := hN _ H3.out.rd; (with_reducible refine hN2.mono ?_); rintro e w4 ⟨rfl, hk4, hr4⟩; have h4 := CS.kept H3.out hk4 hr4; have f42 := h4.f 2; have y42 := h4.c2; have H5 := hid (h4.nmset nm); clear h4 hk4 hr4)
    | (go_at_call 72; have hC2 := hC B _ _ H5.out.self; (with_reducible refine hC2.mono ?_); rintro e w6 ⟨rfl, pt, hpt, h6⟩; have H6 := hid (H5.out.trans h6); have hz6 := HZ.out _ _ _ H6.out; obtain ⟨kd, tx, nm6, op6, q6, wd6, mo6, su6, li6, pl6⟩ := pt; obtain ⟨p0, p1, p2', p3, p4, p5, p6, p7, p8, p9⟩ := pt_cells H6.out.box; have HZ6 := hid hz6; clear h6 hz6)
    | (refine wpList_store_row rfl 34 _ _ rfl w.heap.size (cellsPt ⟨kd, tx, nm6, op6, q6, wd6, mo6, su6, li6, pl6⟩).toArray rfl rfl _ _ HZ6.out part_sz rfl (cellsPt_all _) ?_))
  subst hpt
  exact ret_part (pt := ⟨kd, tx, nm6, op6, q6, wd6, mo6, su6, li6, pl6⟩) rfl rfl (setRow_heap _ _ _ _ _ _ HZ6.out) rfl (HF.out _ _ _ H6.out)
end Go.Proofs.YtialepcdbpofkaaGreat
namespace Go.Proofs.YtialepcdbpofkaaGreat
open Go.RowKit
open Go.Lib (hid)
set_option maxRecDepth 100000 in
set_option maxHeartbeats 4000000 in
theorem braces_lnbad (s : ByteArray) (bash : Bool) (p d way : Nat) (q0 : Bool) (hq : decide (3 ≤ way) = q0) (hs : s.size ≤ 137438953472) (hp : p + 2 ≤ s.size) (hcl : countedL (s.data.toList.drop (p + 2)) = true) (e0 : Fe) (q : Nat) (hN : NameBad s bash (p + 3) d s.size e0 q) (B : Nat) (w : World) (hr : LRd w B s bash p d) :
    Calls Tryz.prog 59 #[.pointer (some ⟨B, 0, none⟩), .int .i64 way] w (PartBad B w e0 q) := by
  have hBw := hr.lt
  have hb0 : Below w.heap.size w (w.alloc zeroO) := (Below.refl _ _).alloc (Nat.le_refl _) _
  have hr0 := hr.below hb0
  have c1 := hr0.c1
  have f1 := hr0.free 1
  have hp0 : (0 : Int) ≤ (p : Int) := by omega
  have hsi : (s.size : Int) ≤ 137438953472 := by omega
  have hpi : (p : Int) + 2 ≤ (s.size : Int) := by omega
  have hqi : decide ((3 : Int) ≤ (way : Int)) = q0 := by rw [← hq]; simp; omega
  have hp2 : ((p + 2 : Nat) : Int) = (p : Int) + 2 := by omega
  have hr1 : LRd (w.setCell ⟨B, 1, none⟩ (.int .i64 ((p : Int) + 2))) B s bash (p + 2) d := by
    have := hr.at_ (p + 2)
    rw [hp2] at this
    exact this
  have hr2 : LRd ((w.setCell ⟨B, 1, none⟩ (.int .i64 ((p : Int) + 2))).alloc zeroO) B s bash (p + 2) d := hr1.below ((Below.refl _ _).alloc (Nat.le_refl _) _)
  have hz1 : ((w.setCell ⟨B, 1, none⟩ (.int .i64 ((p : Int) + 2))).alloc zeroO).heap[w.heap.size]? = some zeroO := alloc_at (by simp [World.setCell])
  have hk1 : KF (fun k => k = B) w ((w.setCell ⟨B, 1, none⟩ (.int .i64 ((p : Int) + 2))).alloc zeroO) := ((KF.refl (fun k => k = B) w).set (.inl rfl) 1 _).alloc _
  have hsz1 : ((w.setCell ⟨B, 1, none⟩ (.int .i64 ((p : Int) + 2))).alloc zeroO).heap.size = w.heap.size + 1 := by rw [World.size_alloc]; simp [World.setCell]
  -- the world with the part's variable in it
  obtain ⟨W2, hW2⟩ : ∃ W2, ((w.setCell ⟨B, 1, none⟩ (.int .i64 ((p : Int) + 2))).alloc zeroO).alloc (.cells (cellsPt (brPt [] [] q0)).toArray 34) = W2 := ⟨_, rfl⟩
  have hcs : CS W2 B (w.heap.size + 1) s bash d (p + 2) (brPt [] [] q0) W2 := by
    rw [← hW2]
    exact ⟨alloc_at hsz1, hr2.below ((Below.refl _ _).alloc (Nat.le_refl _) _), KF.refl _ _, by omega⟩
  have hkW : KF (fun k => k = B) w W2 := by rw [← hW2]; exact hk1.alloc _
  have hzW : W2.heap[w.heap.size]? = some zeroO := by rw [← hW2]; exact (Below.heap_alloc _ _ _ (by rw [hsz1]; omega)).trans hz1
  have cT := counted_any s bash (p + 2) d (by omega) (by omega) B W2 hcs.rd
  have hp3 : ((p + 3 : Nat) : Int) = (p : Int) + 2 + 1 := by omega
  have HC := hid hcs
  have HW := hid (And.intro hkW hzW)
  -- out of the state of the part's variable behind it all
  have HF : Hid (∀ (p' : Nat) (pt : Pt) (W : World), CS W2 B (w.heap.size + 1) s bash d p' pt W → PartPost B s bash p' d w (shP pt) (.returned (aggP pt)) (W.setRow w.heap.size (cellsPt pt).toArray)) := hid fun p' pt W h => by
    refine ⟨pt, rfl, rfl, ?_, LRd.row h.rd (by omega) _⟩
    have hkk : KF (fun k => k = B) w W := ⟨h.kf.os.trans hkW.os, h.kf.tape.trans hkW.tape, h.kf.output.trans hkW.output, Nat.le_trans hkW.size h.kf.size, fun i hi hn => (h.kf.block i (Nat.lt_of_lt_of_le hi hkW.size) (by omega)).trans (hkW.block i hi hn)⟩
    exact hkk.row (.inr (Nat.le_refl _)) _
  have HZ : Hid (∀ (p' : Nat) (pt : Pt) (W : World), CS W2 B (w.heap.size + 1) s bash d p' pt W → W.heap[w.heap.size]? = some zeroO) := hid fun p' pt W h => (h.kf.block _ (lt_of_block hzW) (by omega)).trans hzW
  have HB : Hid (∀ (W : World), KF (fun k => k = B ∨ k = w.heap.size + 1) W2 W → KF (fun k => k = B) w W) := hid fun W h => ⟨h.os.trans hkW.os, h.tape.trans hkW.tape, h.output.trans hkW.output, Nat.le_trans hkW.size h.size, fun i hi hn => (h.block i (Nat.lt_of_lt_of_le hi hkW.size) (by omega)).trans (hkW.block i hi hn)⟩
  rw [hcl] at cT
  clear hr hb0 hr0 hr1 hr2 hz1 hk1 hsz1 hcs hkW hzW hcl hq
  go_enter Tryz.func59, Tryz.ntmps59
  go_wp2_with (first
    | (go_at_call 70; change Calls _ _ _ (World.alloc _ (.cells (cellsPt (brPt [] [] q0)).toArray 34)) _; rw [hW2]; (with_reducible refine cT.mono ?_); rintro e w3 ⟨rfl, n3, rfl⟩; have h3 := HC.out.drewN n3; have u0 := h3.rd.c0; have u1 : (W2.drewN n3).cell? ⟨B, 1, none⟩ = some (.int .i64 ((p : Int) + 2)) := (by have := h3.rd.c1; rw [hp2] at this; exact this); have u2 := h3.rd.free 1; have h4 := h3.at_ (p + 3); rw [hp3] at h4; have u3 := h4.rd.c0; have H3 := hid h4; clear h3 h4)
    | (go_at_call 62; have hN2 := hN B _ H3.out.rd; (with_reducible refine hN2.mono ?_); rintro e w4 ⟨rfl, hb4⟩))
  exact ⟨rfl, rfl, HB.out _ (H3.out.kf.trans (KF.of_below (F := fun _ => False) hb4) (fun _ h => h.elim))⟩
set_option maxRecDepth 100000 in
set_option maxHeartbeats 4000000 in
theorem braces_llbad (s : ByteArray) (bash : Bool) (p d way : Nat) (q0 : Bool) (hq : decide (3 ≤ way) = q0) (hs : s.size ≤ 137438953472) (hp : p + 2 ≤ s.size) (hcl : countedL (s.data.toList.drop (p + 2)) = true) (n : Nat) (nm : List UInt8) (hnm : (s.data.toList.drop (p + 3)).take n = nm) (hN : NameOk s bash (p + 3) d s.size n) (e0 : Fe) (q : Nat) (hL : ∀ (B : Nat) (w : World), LRd w B s bash (p + 3 + n) d → Calls Tryz.prog 71 #[.pointer (some ⟨B, 0, none⟩), encS nm] w (PartBad B w e0 q)) (B : Nat) (w : World) (hr : LRd w B s bash p d) :
    Calls Tryz.prog 59 #[.pointer (some ⟨B, 0, none⟩), .int .i64 way] w (PartBad B w e0 q) := by
  have hBw := hr.lt
  have hb0 : Below w.heap.size w (w.alloc zeroO) := (Below.refl _ _).alloc (Nat.le_refl _) _
  have hr0 := hr.below hb0
  have c1 := hr0.c1
  have f1 := hr0.free 1
  have hp0 : (0 : Int) ≤ (p : Int) := by omega
  have hsi : (s.size : Int) ≤ 137438953472 := by omega
  have hpi : (p : Int) + 2 ≤ (s.size : Int) := by omega
  have hqi : decide ((3 : Int) ≤ (way : Int)) = q0 := by rw [← hq]; simp; omega
  have hp2 : ((p + 2 : Nat) : Int) = (p : Int) + 2 := by omega
  have hr1 : LRd (w.setCell ⟨B, 1, none⟩ (.int .i64 ((p : Int) + 2))) B s bash (p + 2) d := by
    have := hr.at_ (p + 2)
    rw [hp2] at this
    exact this
  have hr2 : LRd ((w.setCell ⟨B, 1, none⟩ (.int .i64 ((p : Int) + 2))).alloc zeroO) B s bash (p + 2) d := hr1.below ((Below.refl _ _).alloc (Nat.le_refl _) _)
  have hz1 : ((w.setCell ⟨B, 1, none⟩ (.int .i64 ((p : Int) + 2))).alloc zeroO).heap[w.heap.size]? = some zeroO := alloc_at (by simp [World.setCell])
  have hk1 : KF (fun k => k = B) w ((w.setCell ⟨B, 1, none⟩ (.int .i64 ((p : Int) + 2))).alloc zeroO) := ((KF.refl (fun k => k = B) w).set (.inl rfl) 1 _).alloc _
  have hsz1 : ((w.setCell ⟨B, 1, none⟩ (.int .i64 ((p : Int) + 2))).alloc zeroO).heap.size = w.heap.size + 1 := by rw [World.size_alloc]; simp [World.setCell]
  -- the world with the part's variable in it
  obtain ⟨W2, hW2⟩ : ∃ W2, ((w.setCell ⟨B, 1, none⟩ (.int .i64 ((p : Int) + 2))).alloc zeroO).alloc (.cells (cellsPt (brPt [] [] q0)).toArray 34) = W2 := ⟨_, rfl⟩
  have hcs : CS W2 B (w.heap.size + 1) s bash d (p + 2) (brPt [] [] q0) W2 := by
    rw [← hW2]
    exact ⟨alloc_at hsz1, hr2.below ((Below.refl _ _).alloc (Nat.le_refl _) _), KF.refl _ _, by omega⟩
  have hkW : KF (fun k => k = B) w W2 := by rw [← hW2]; exact hk1.alloc _
  have hzW : W2.heap[w.heap.size]? = some zeroO := by rw [← hW2]; exact (Below.heap_alloc _ _ _ (by rw [hsz1]; omega)).trans hz1
  have cT := counted_any s bash (p + 2) d (by omega) (by omega) B W2 hcs.rd
  have hp3 : ((p + 3 : Nat) : Int) = (p : Int) + 2 + 1 := by omega
  have HC := hid hcs
  have hN := fun (W : World) (hr : LRd W B s bash (p + 3) d) => hN B W hr
  rw [hnm] at hN
  have HW := hid (And.intro hkW hzW)
  -- out of the state of the part's variable behind it all
  have HF : Hid (∀ (p' : Nat) (pt : Pt) (W : World), CS W2 B (w.heap.size + 1) s bash d p' pt W → PartPost B s bash p' d w (shP pt) (.returned (aggP pt)) (W.setRow w.heap.size (cellsPt pt).toArray)) := hid fun p' pt W h => by
    refine ⟨pt, rfl, rfl, ?_, LRd.row h.rd (by omega) _⟩
    have hkk : KF (fun k => k = B) w W := ⟨h.kf.os.trans hkW.os, h.kf.tape.trans hkW.tape, h.kf.output.trans hkW.output, Nat.le_trans hkW.size h.kf.size, fun i hi hn => (h.kf.block i (Nat.lt_of_lt_of_le hi hkW.size) (by omega)).trans (hkW.block i hi hn)⟩
    exact hkk.row (.inr (Nat.le_refl _)) _
  have HZ : Hid (∀ (p' : Nat) (pt : Pt) (W : World), CS W2 B (w.heap.size + 1) s bash d p' pt W → W.heap[w.heap.size]? = some zeroO) := hid fun p' pt W h => (h.kf.block _ (lt_of_block hzW) (by omega)).trans hzW
  have HB : Hid (∀ (W : World), KF (fun k => k = B ∨ k = w.heap.size + 1) W2 W → KF (fun k => k = B) w W) := hid fun W h => ⟨h.os.trans hkW.os, h.tape.trans hkW.tape, h.output.trans hkW.output, Nat.le_trans hkW.size h.size, fun i hi hn => (h.block i (Nat.lt_of_lt_of_le hi hkW.size) (by omega)).trans (hkW.block i hi hn)⟩
  rw [hcl] at cT
  clear hr hb0 hr0 hr1 hr2 hz1 hk1 hsz1 hcs hkW hzW hcl hq
  go_enter Tryz.func59, Tryz.ntmps59
  go_wp2_with (first
    | (go_at_call 70; change Calls _ _ _ (World.alloc _ (.cells (cellsPt (brPt [] [] q0)).toArray 34)) _; rw [hW2]; (with_reducible refine cT.mono ?_); rintro e w3 ⟨rfl, n3, rfl⟩; have h3 := HC.out.drewN n3; have u0 := h3.rd.c0; have u1 : (W2.drewN n3).cell? ⟨B, 1, none⟩ = some (.int .i64 ((p : Int) + 2)) := (by have := h3.rd.c1; rw [hp2] at this; exact this); have u2 := h3.rd.free 1; have h4 := h3.at_ (p + 3); rw [hp3] at h4; have u3 := h4.rd.c0; have H3 := hid h4; clear h3 h4)
    | (go_at_call 62; have hN2 := hN _ H3.out.rd; (with_reducible refine hN2.mono ?_); rintro e w4 ⟨rfl, hk4, hr4⟩; have h4 := CS.kept H3.out hk4 hr4; have f42 := h4.f 2; have y42 := h4.c2; have h5 := h4.nmset nm; have f52 := h5.f 2; have y52 := h5.c2; have H5 := hid h5; clear h4 h5 hk4 hr4)
    | (go_at_call 71; (with_reducible refine (hL B _ H5.out.rd).mono ?_); rintro e w6 ⟨rfl, hk6⟩))
  exact ⟨rfl, rfl, HB.out _ (H5.out.kf.trans hk6 (fun _ hg => .inl (.inl hg)))⟩
set_option maxRecDepth 100000 in
set_option maxHeartbeats 4000000 in
theorem braces_lok (s : ByteArray) (bash : Bool) (p d way : Nat) (q0 : Bool) (hq : decide (3 ≤ way) = q0) (hs : s.size ≤ 137438953472) (hp : p + 2 ≤ s.size) (hcl : countedL (s.data.toList.drop (p + 2)) = true) (n : Nat) (nm : List UInt8) (hnm : (s.data.toList.drop (p + 3)).take n = nm) (hN : NameOk s bash (p + 3) d s.size n) (p2 : Nat) (op : List UInt8) (hL : ∀ (B : Nat) (w : World), LRd w B s bash (p + 3 + n) d → Calls Tryz.prog 71 #[.pointer (some ⟨B, 0, none⟩), encS nm] w (LenPost B s bash p2 d w op)) (B : Nat) (w : World) (hr : LRd w B s bash p d) :
    Calls Tryz.prog 59 #[.pointer (some ⟨B, 0, none⟩), .int .i64 way] w (PartPost B s bash p2 d w (brPt nm op q0)) := by
  have hBw := hr.lt
  have hb0 : Below w.heap.size w (w.alloc zeroO) := (Below.refl _ _).alloc (Nat.le_refl _) _
  have hr0 := hr.below hb0
  have c1 := hr0.c1
  have f1 := hr0.free 1
  have hp0 : (0 : Int) ≤ (p : Int) := by omega
  have hsi : (s.size : Int) ≤ 137438953472 := by omega
  have hpi : (p : Int) + 2 ≤ (s.size : Int) := by omega
  have hqi : decide ((3 : Int) ≤ (way : Int)) = q0 := by rw [← hq]; simp; omega
  have hp2 : ((p + 2 : Nat) : Int) = (p : Int) + 2 := by omega
  have hr1 : LRd (w.setCell ⟨B, 1, none⟩ (.int .i64 ((p : Int) + 2))) B s bash (p + 2) d := by
    have := hr.at_ (p + 2)
    rw [hp2] at this
    exact this
  have hr2 : LRd ((w.setCell ⟨B, 1, none⟩ (.int .i64 ((p : Int) + 2))).alloc zeroO) B s bash (p + 2) d := hr1.below ((Below.refl _ _).alloc (Nat.le_refl _) _)
  have hz1 : ((w.setCell ⟨B, 1, none⟩ (.int .i64 ((p : Int) + 2))).alloc zeroO).heap[w.heap.size]? = some zeroO := alloc_at (by simp [World.setCell])
  have hk1 : KF (fun k => k = B) w ((w.setCell ⟨B, 1, none⟩ (.int .i64 ((p : Int) + 2))).alloc zeroO) := ((KF.refl (fun k => k = B) w).set (.inl rfl) 1 _).alloc _
  have hsz1 : ((w.setCell ⟨B, 1, none⟩ (.int .i64 ((p : Int) + 2))).alloc zeroO).heap.size = w.heap.size + 1 := by rw [World.size_alloc]; simp [World.setCell]
  -- the world with the part's variable in it
  obtain ⟨W2, hW2⟩ : ∃ W2, ((w.setCell ⟨B, 1, none⟩ (.int .i64 ((p : Int) + 2))).alloc zeroO).alloc (.cells (cellsPt (brPt [] [] q0)).toArray 34) = W2 := ⟨_, rfl⟩
  have hcs : CS W2 B (w.heap.size + 1) s bash d (p + 2) (brPt [] [] q0) W2 := by
    rw [← hW2]
    exact ⟨alloc_at hsz1, hr2.below ((Below.refl _ _).alloc (Nat.le_refl _) _), KF.refl _ _, by omega⟩
  have hkW : KF (fun k => k = B) w W2 := by rw [← hW2]; exact hk1.alloc _
  have hzW : W2.heap[w.heap.size]? = some zeroO := by rw [← hW2]; exact (Below.heap_alloc _ _ _ (by rw [hsz1]; omega)).trans hz1
  have cT := counted_any s bash (p + 2) d (by omega) (by omega) B W2 hcs.rd
  have hp3 : ((p + 3 : Nat) : Int) = (p : Int) + 2 + 1 := by omega
  have HC := hid hcs
  have hN := fun (W : World) (hr : LRd W B s bash (p + 3) d) => hN B W hr
  rw [hnm] at hN
  have HW := hid (And.intro hkW hzW)
  -- out of the state of the part's variable behind it all
  have HF : Hid (∀ (p' : Nat) (pt : Pt) (W : World), CS W2 B (w.heap.size + 1) s bash d p' pt W → PartPost B s bash p' d w (shP pt) (.returned (aggP pt)) (W.setRow w.heap.size (cellsPt pt).toArray)) := hid fun p' pt W h => by
    refine ⟨pt, rfl, rfl, ?_, LRd.row h.rd (by omega) _⟩
    have hkk : KF (fun k => k = B) w W := ⟨h.kf.os.trans hkW.os, h.kf.tape.trans hkW.tape, h.kf.output.trans hkW.output, Nat.le_trans hkW.size h.kf.size, fun i hi hn => (h.kf.block i (Nat.lt_of_lt_of_le hi hkW.size) (by omega)).trans (hkW.block i hi hn)⟩
    exact hkk.row (.inr (Nat.le_refl _)) _
  have HZ : Hid (∀ (p' : Nat) (pt : Pt) (W : World), CS W2 B (w.heap.size + 1) s bash d p' pt W → W.heap[w.heap.size]? = some zeroO) := hid fun p' pt W h => (h.kf.block _ (lt_of_block hzW) (by omega)).trans hzW
  have HB : Hid (∀ (W : World), KF (fun k => k = B ∨ k = w.heap.size + 1) W2 W → KF (fun k => k = B) w W) := hid fun W h => ⟨h.os.trans hkW.os, h.tape.trans hkW.tape, h.output.trans hkW.output, Nat.le_trans hkW.size h.size, fun i hi hn => (h.block i (Nat.lt_of_lt_of_le hi hkW.size) (by omega)).trans (hkW.block i hi hn)⟩
  rw [hcl] at cT
  clear hr hb0 hr0 hr1 hr2 hz1 hk1 hsz1 hcs hkW hzW hcl hq
  go_enter Tryz.func59, Tryz.ntmps59
  go_wp2_with (first
    | (go_at_call 70; change Calls _ _ _ (World.alloc _ (.cells (cellsPt (brPt [] [] q0)).toArray 34)) _; rw [hW2]; (with_reducible refine cT.mono ?_); rintro e w3 ⟨rfl, n3, rfl⟩; have h3 := HC.out.drewN n3; have u0 := h3.rd.c0; have u1 : (W2.drewN n3).cell? ⟨B, 1, none⟩ = some (.int .i64 ((p : Int) + 2)) := (by have := h3.rd.c1; rw [hp2] at this; exact this); have u2 := h3.rd.free 1; have h4 := h3.at_ (p + 3); rw [hp3] at h4; have u3 := h4.rd.c0; have H3 := hid h4; clear h3 h4)
    | (go_at_call 62; have hN2 := hN _ H3.out.rd; (with_reducible refine hN2.mono ?_); rintro e w4 ⟨rfl, hk4, hr4⟩; have h4 := CS.kept H3.out hk4 hr4; have f42 := h4.f 2; have y42 := h4.c2; have h5 := h4.nmset nm; have f52 := h5.f 2; have y52 := h5.c2; have H5 := hid h5; clear h4 h5 hk4 hr4)
    | (go_at_call 71; (with_reducible refine (hL B _ H5.out.rd).mono ?_); rintro e w6 ⟨rfl, hk6, hr6⟩; have h6 := H5.out.kept hk6 hr6; have f63 := h6.f 3; have y63 := h6.c3; have h7 := h6.op op; have hz7 := HZ.out _ _ _ h7; obtain ⟨p0, p1, p2', p3, p4, p5, p6, p7, p8, p9⟩ := pt_cells h7.box; have HZ7 := hid hz7; have H7 := hid h7; clear h6 h7 hz7 hk6 hr6)
    | (refine wpList_store_row rfl 34 _ _ rfl w.heap.size (cellsPt (brPt nm op q0)).toArray rfl rfl _ _ HZ7.out part_sz rfl (cellsPt_all _) ?_))
  exact ret_part (pt := brPt nm op q0) rfl rfl (setRow_heap _ _ _ _ _ _ HZ7.out) rfl (HF.out _ _ _ H7.out)
end Go.Proofs.YtialepcdbpofkaaGreat

namespace Go.Proofs.YtialepcdbpofkaaGreat
namespace Ans
theorem toList_empty (s : ByteArray) (h : s.data.toList = []) : s = .empty := by
  cases s with | mk d => cases d with | mk l => simp at h; subst h; rfl
def digI (c : Int) : Int := if 48 ≤ c ∧ c ≤ 57 then c - 48 else if 97 ≤ c ∧ c ≤ 102 then c - 97 + 10 else if 65 ≤ c ∧ c ≤ 70 then c - 65 + 10 else 16
def numI (base : Int) : Nat → Int → Nat → List UInt8 → Int × Nat
  | 0, n, i, _ => (n, i)
  | _ + 1, n, i, [] => (n, i)
  | k + 1, n, i, c :: r => if base ≤ digI c.toNat then (n, i) else numI base k (n * base + digI c.toNat) (i + 1) r
def marksL : List UInt8 := [92, 39, 34, 97, 98, 101, 102, 110, 114, 116, 118]
def meantL : List UInt8 := [92, 39, 34, 7, 8, 27, 12, 10, 13, 9, 11]
def numOf (ahead : Nat) (p : Int × Nat) : Option (UInt8 × Nat) := if p.1 = 0 ∨ 255 < p.1 then none else some (p.1.toNat.toUInt8, ahead + p.2)
def escL : List UInt8 → Option (UInt8 × Nat)
  | [] => none
  | c :: r => if 0 ≤ Lib.indexByte marksL c then some (meantL.getD (Lib.indexByte marksL c).toNat 0, 1)
    else if c = 120 then numOf 1 (numI 16 2 0 0 r) else numOf 0 (numI 8 3 0 0 (c :: r))
def octL : List UInt8 → Except Int (UInt8 × Nat)
  | [] => .error 0
  | c :: r => if c = 92 then (match escL r with | some (b, k) => .ok (b, 1 + k) | none => .error 33) else if c = 0 ∨ c = 39 then .error 61 else .ok (c, 1)
def dec : Nat → List UInt8 → Except (Nat × Int) (List UInt8)
  | _, [] => .ok []
  | at_, c :: r => match octL (c :: r) with
    | .error e => .error (at_, e)
    | .ok (b, k) => match dec (at_ + k) (r.drop (k - 1)) with
      | .error x => .error x
      | .ok t => .ok (b :: t)
termination_by _ l => l.length
decreasing_by simp; omega
theorem all_u8 {p : UInt8 → Prop} (h : ∀ n : Fin 256, p (UInt8.ofFin n)) : ∀ c, p c := fun c => h c.toFin
theorem escL_cons (c : UInt8) (r : List UInt8) : escL (c :: r) = if 0 ≤ Lib.indexByte marksL c then some (meantL.getD (Lib.indexByte marksL c).toNat 0, 1)
    else if c = 120 then numOf 1 (numI 16 2 0 0 r) else numOf 0 (numI 8 3 0 0 (c :: r)) := rfl
theorem octL_cons (c : UInt8) (r : List UInt8) : octL (c :: r) = if c = 92 then (match escL r with | some (b, k) => .ok (b, 1 + k) | none => .error 33) else if c = 0 ∨ c = 39 then .error 61 else .ok (c, 1) := rfl
theorem digI_lo (c : Int) : 0 ≤ digI c ∧ digI c ≤ 16 := by unfold digI; split <;> (try split) <;> (try split) <;> omega
theorem numI_lo (base : Int) : ∀ (k : Nat) (n : Int) (i : Nat) (l : List UInt8), i ≤ (numI base k n i l).2 ∧ (numI base k n i l).2 ≤ i + k ∧ (numI base k n i l).2 ≤ i + l.length
  | 0, n, i, l => by simp [numI]
  | k + 1, n, i, [] => by simp [numI]
  | k + 1, n, i, c :: r => by
    unfold numI
    have := numI_lo base k (n * base + digI c.toNat) (i + 1) r
    split
    · simp
    · simp only [List.length_cons]; omega
theorem numI_zero {base : Int} {k : Nat} {l : List UInt8} (h : (numI base k 0 0 l).1 ≠ 0) : 1 ≤ (numI base k 0 0 l).2 := by
  cases k with
  | zero => simp [numI] at h
  | succ k =>
    cases l with
    | nil => simp [numI] at h
    | cons c r =>
      unfold numI at h ⊢
      split
      · rename_i hb; simp [hb] at h
      · have := (numI_lo base k (0 * base + digI c.toNat) (0 + 1) r).1
        omega
theorem numOf_some {a : Nat} {p : Int × Nat} {b : UInt8} {k : Nat} (h : numOf a p = some (b, k)) : p.1 ≠ 0 ∧ p.1 ≤ 255 ∧ b = p.1.toNat.toUInt8 ∧ k = a + p.2 := by
  unfold numOf at h
  split at h
  · cases h
  · rename_i h1
    simp only [Option.some.injEq, Prod.mk.injEq] at h
    exact ⟨fun e => h1 (.inl e), by omega, h.1.symm, h.2.symm⟩
theorem meant_ne : ∀ c : UInt8, 0 ≤ Lib.indexByte marksL c → meantL.getD (Lib.indexByte marksL c).toNat 0 ≠ 0 := all_u8 (by decide +kernel)
theorem numI_nonneg (base : Int) (hb : 0 ≤ base) : ∀ (k : Nat) (n : Int) (i : Nat) (l : List UInt8), 0 ≤ n → 0 ≤ (numI base k n i l).1
  | 0, n, i, l, h => by simpa [numI] using h
  | k + 1, n, i, [], h => by simpa [numI] using h
  | k + 1, n, i, c :: r, h => by
    unfold numI
    split
    · exact h
    · exact numI_nonneg base hb k _ _ r (by have := Int.mul_nonneg h hb; have := (digI_lo c.toNat).1; omega)
theorem toU8_ne {n : Int} (h0 : 0 ≤ n) (h1 : n ≠ 0) (h2 : n ≤ 255) : n.toNat.toUInt8 ≠ 0 := by
  intro h
  have := congrArg UInt8.toNat h
  simp at this
  omega
theorem escL_some {l : List UInt8} {b : UInt8} {k : Nat} (h : escL l = some (b, k)) : b ≠ 0 ∧ 1 ≤ k ∧ k ≤ l.length := by
  cases l with
  | nil => simp [escL] at h
  | cons c r =>
    rw [escL_cons] at h
    split at h
    · rename_i h0
      simp only [Option.some.injEq, Prod.mk.injEq] at h
      exact ⟨by rw [← h.1]; exact meant_ne c h0, by omega, by simp only [List.length_cons]; omega⟩
    · split at h
      · have h1 := numOf_some h
        have h2 := numI_zero h1.1
        have h3 := numI_lo 16 2 0 0 r
        have h4 := numI_nonneg 16 (by omega) 2 0 0 r (by omega)
        exact ⟨by rw [h1.2.2.1]; exact toU8_ne h4 h1.1 h1.2.1, by omega, by simp only [List.length_cons]; omega⟩
      · have h1 := numOf_some h
        have h2 := numI_zero h1.1
        have h3 := numI_lo 8 3 0 0 (c :: r)
        have h4 := numI_nonneg 8 (by omega) 3 0 0 (c :: r) (by omega)
        exact ⟨by rw [h1.2.2.1]; exact toU8_ne h4 h1.1 h1.2.1, by omega, by omega⟩
theorem octL_ok {l : List UInt8} {b : UInt8} {k : Nat} (h : octL l = .ok (b, k)) : b ≠ 0 ∧ 1 ≤ k ∧ k ≤ l.length := by
  cases l with
  | nil => simp [octL] at h
  | cons c r =>
    rw [octL_cons] at h
    split at h
    · split at h
      · rename_i b' k' he
        have h1 := escL_some he
        simp only [Except.ok.injEq, Prod.mk.injEq] at h
        obtain ⟨rfl, rfl⟩ := h
        exact ⟨h1.1, by omega, by simp only [List.length_cons]; omega⟩
      · cases h
    · split at h
      · cases h
      · rename_i h1
        simp only [Except.ok.injEq, Prod.mk.injEq] at h
        obtain ⟨rfl, rfl⟩ := h
        exact ⟨fun e => h1 (.inl e), by omega, by simp⟩
theorem dec_ok {at_ : Nat} {l : List UInt8} {b : UInt8} {k : Nat} (h : octL l = .ok (b, k)) : dec at_ l = match dec (at_ + k) (l.drop k) with | .error x => .error x | .ok t => .ok (b :: t) := by
  have h1 := octL_ok h
  cases l with
  | nil => simp [octL] at h
  | cons c r =>
    have e : (c :: r).drop k = r.drop (k - 1) := by
      obtain ⟨j, rfl⟩ : ∃ j, k = j + 1 := ⟨k - 1, by omega⟩
      simp
    rw [dec, h, e]
theorem dec_error {at_ : Nat} {l : List UInt8} {e : Int} (hl : l ≠ []) (h : octL l = .error e) : dec at_ l = .error (at_, e) := by
  cases l with
  | nil => exact absurd rfl hl
  | cons c r => rw [dec, h]
theorem dec_nil (at_ : Nat) : dec at_ [] = .ok [] := by rw [dec]
def pre (bs : List UInt8) : Except (Nat × Int) (List UInt8) → Except (Nat × Int) (List UInt8)
  | .error x => .error x
  | .ok t => .ok (bs ++ t)
theorem pre_nil (x : Except (Nat × Int) (List UInt8)) : pre [] x = x := by cases x <;> rfl
theorem pre_ok {at_ : Nat} {l : List UInt8} {b : UInt8} {k : Nat} (bs : List UInt8) (h : octL l = .ok (b, k)) : pre bs (dec at_ l) = pre (bs ++ [b]) (dec (at_ + k) (l.drop k)) := by
  rw [dec_ok h]
  cases dec (at_ + k) (l.drop k) <;> simp [pre]
theorem dec_facts : ∀ (n : Nat) (at_ : Nat) (l : List UInt8), l.length ≤ n →
    (∀ x, dec at_ l = .error x → at_ ≤ x.1 ∧ x.1 < at_ + l.length ∧ x.2 ≠ 0 ∧ (x.2 = 33 ∨ x.2 = 61)) ∧ (∀ t, dec at_ l = .ok t → (∀ c ∈ t, c ≠ 0) ∧ t.length ≤ l.length) := by
  intro n
  induction n with
  | zero =>
    intro at_ l hl
    obtain rfl := List.eq_nil_of_length_eq_zero (Nat.le_zero.1 hl)
    rw [dec_nil]
    exact ⟨fun x h => by simp at h, fun t h => by simp at h; subst h; simp⟩
  | succ n ih =>
    intro at_ l hl
    cases l with
    | nil =>
      rw [dec_nil]
      exact ⟨fun x h => by simp at h, fun t h => by simp at h; subst h; simp⟩
    | cons c r =>
      cases ho : octL (c :: r) with
      | error e =>
        have he : e = 33 ∨ e = 61 := by
          rw [octL_cons] at ho
          split at ho
          · split at ho
            · cases ho
            · simp at ho; omega
          · split at ho
            · simp at ho; omega
            · cases ho
        rw [dec_error (by simp) ho]
        exact ⟨fun x h => by simp at h; subst h; simp; omega, fun t h => by simp at h⟩
      | ok p =>
        obtain ⟨b, k⟩ := p
        have h1 := octL_ok ho
        have h2 := ih (at_ + k) ((c :: r).drop k) (by rw [List.length_drop]; omega)
        rw [List.length_drop] at h2
        rw [dec_ok ho]
        cases hd : dec (at_ + k) ((c :: r).drop k) with
        | error y =>
          have h3 := h2.1 y hd
          exact ⟨fun x h => by simp at h; subst h; exact ⟨by omega, by omega, h3.2.2⟩, fun t h => by simp at h⟩
        | ok t =>
          have h3 := h2.2 t hd
          exact ⟨fun x h => by simp at h, fun t' h => by
            simp at h; subst h
            exact ⟨fun c hc => by rcases List.mem_cons.1 hc with rfl | hc; exact h1.1; exact h3.1 c hc, by simp only [List.length_cons] at h3 h1 ⊢; omega⟩⟩
end Ans
end Go.Proofs.YtialepcdbpofkaaGreat

namespace Go.Proofs.YtialepcdbpofkaaGreat
namespace Ans
open Go.RowKit
open Go.Lib (hid)
theorem ret_int {k : IntKind} {a b : Int} (h : a = b) : Ending.returned (.int k a) = .returned (.int k b) := by rw [h]
set_option maxHeartbeats 800000 in
theorem digit_any (c : Int) (h0 : 0 ≤ c) (h9 : c ≤ 255) (w : World) :
    Calls Tryz.prog 120 #[.int .u8 c] w fun e w' => e = .returned (.int .i64 (digI c)) ∧ w = w' := by
  by_cases h1 : 48 ≤ c <;> by_cases h2 : c ≤ 57 <;> by_cases h3 : 97 ≤ c <;> by_cases h4 : c ≤ 102 <;> by_cases h5 : 65 ≤ c <;> by_cases h6 : c ≤ 70
  all_goals
    first
    | (exfalso; omega)
    | (have H : Hid (digI c = if 48 ≤ c ∧ c ≤ 57 then c - 48 else if 97 ≤ c ∧ c ≤ 102 then c - 97 + 10 else if 65 ≤ c ∧ c ≤ 70 then c - 65 + 10 else 16) := hid rfl
       go_enter Tryz.func120, Tryz.ntmps120
       go_wp2
       go_ret
       exact ⟨ret_int (by rw [H.out]; (repeat' split) <;> omega), rfl⟩)
def NB (k : Nat) (n : Int) : Prop := 0 ≤ n ∧ ((k = 0 ∧ n ≤ 0) ∨ (k = 1 ∧ n ≤ 15) ∨ (k = 2 ∧ n ≤ 255) ∨ (k = 3 ∧ n ≤ 4095))
set_option maxHeartbeats 1000000 in
theorem number_8 (most : Nat) (hm : most ≤ 3) (s : ByteArray) (w : World) :
    Calls Tryz.prog 108 #[.string s, .int .i64 8, .int .i64 most] w fun e w' => e = .returned (.tuple #[.int .i64 (numI 8 most 0 0 s.data.toList).1, .int .i64 (numI 8 most 0 0 s.data.toList).2]) ∧ w = w' := by
  go_enter Tryz.func108, Tryz.ntmps108
  go_wp2
  go_loop [6, 10] (fun n i => ∃ (k : Nat) (m : Int), k ≤ most ∧ k ≤ s.size ∧ n = .int .i64 m ∧ i = .int .i64 k ∧ NB k m ∧ Hid (numI 8 most 0 0 s.data.toList = numI 8 (most - k) m k (s.data.toList.drop k))) (fun _ i => most - (intOf i).toNat)
  case atStart => exact ⟨0, 0, Nat.zero_le _, Nat.zero_le _, rfl, rfl, ⟨by omega, by omega⟩, hid rfl⟩
  case round =>
    obtain ⟨k, m, hk, hks, rfl, rfl, hnb, HE⟩ := hrel
    by_cases hkm : k < most
    · obtain ⟨q, hq⟩ : ∃ q, most - k = q + 1 := ⟨most - k - 1, by omega⟩
      have hq2 : most - (k + 1) = q := by omega
      by_cases hlt : k < s.size
      · have g1 : ((k : Int) == (s.size : Int)) = false := by simp; omega
        have hd : s.data.toList.drop k = s[k] :: s.data.toList.drop  (k + 1) := List.drop_eq_getElem_cons (by simpa using hlt)
        have hl9 := s[k].toNat_lt
        have cD := fun W => digit_any (s[k].toNat : Int) (by omega) (by omega) W
        have hlo := digI_lo (s[k].toNat : Int)
        obtain ⟨d, hdd⟩ : ∃ d, digI (s[k].toNat : Int) = d := ⟨_, rfl⟩
        rw [hdd] at cD hlo
        by_cases h8 : 8 ≤ d
        · have HN : Hid (numI 8 most 0 0 s.data.toList = (m, k)) := hid (by rw [HE.out, hd, hq, numI, hdd, if_pos h8])
          clear hd HE hq hq2 hdd hl9
          obtain ⟨hm0, hmb⟩ := hnb
          go_wp2_with (go_at_call 120; refine (cD _).mono ?_; rintro e w' ⟨rfl, rfl⟩)
          go_ret2
          exact ⟨by rw [HN.out]; rfl, rfl⟩
        · have HN : Hid (numI 8 most 0 0 s.data.toList = numI 8 (most - (k + 1)) (m * 8 + d) (k + 1) (s.data.toList.drop (k + 1))) := hid (by rw [HE.out, hd, hq, hq2, numI, hdd, if_neg h8])
          have g2 : decide (8 ≤ d) = false := by simpa using h8
          clear hd HE hq hq2 hdd hl9
          have hnb2 : NB (k + 1) (m * 8 + d) := by
            obtain ⟨hm0, hmb⟩ := hnb
            exact ⟨by omega, by omega⟩
          obtain ⟨hm0, hmb⟩ := hnb
          have hmb2 : m ≤ 4095 := by omega
          have H2 := hid hnb2
          clear hmb hnb2
          go_wp2_with (go_at_call 120; refine (cD _).mono ?_; rintro e w' ⟨rfl, rfl⟩)
          go_round
          case rel => exact ⟨k + 1, m * 8 + d, by omega, by omega, by go_num, by go_num, H2.out, HN⟩
          case measure => simp [intOf]; omega
      · obtain rfl : k = s.size := by omega
        have HN : Hid (numI 8 most 0 0 s.data.toList = (m, s.size)) := hid (by rw [HE.out, List.drop_of_length_le (by rw [len_toList]; exact Nat.le_refl _), hq, numI])
        clear HE hq hq2
        obtain ⟨hm0, hmb⟩ := hnb
        go_wp2
        go_ret2
        exact ⟨by rw [HN.out]; rfl, rfl⟩
    · obtain rfl : k = most := by omega
      have HN : Hid (numI 8 k 0 0 s.data.toList = (m, k)) := hid (by rw [HE.out, Nat.sub_self, numI])
      clear HE
      obtain ⟨hm0, hmb⟩ := hnb
      go_wp2
      go_ret2
      exact ⟨by rw [HN.out]; rfl, rfl⟩
set_option maxHeartbeats 1000000 in
theorem number_16 (most : Nat) (hm : most ≤ 3) (s : ByteArray) (w : World) :
    Calls Tryz.prog 108 #[.string s, .int .i64 16, .int .i64 most] w fun e w' => e = .returned (.tuple #[.int .i64 (numI 16 most 0 0 s.data.toList).1, .int .i64 (numI 16 most 0 0 s.data.toList).2]) ∧ w = w' := by
  go_enter Tryz.func108, Tryz.ntmps108
  go_wp2
  go_loop [6, 10] (fun n i => ∃ (k : Nat) (m : Int), k ≤ most ∧ k ≤ s.size ∧ n = .int .i64 m ∧ i = .int .i64 k ∧ NB k m ∧ Hid (numI 16 most 0 0 s.data.toList = numI 16 (most - k) m k (s.data.toList.drop k))) (fun _ i => most - (intOf i).toNat)
  case atStart => exact ⟨0, 0, Nat.zero_le _, Nat.zero_le _, rfl, rfl, ⟨by omega, by omega⟩, hid rfl⟩
  case round =>
    obtain ⟨k, m, hk, hks, rfl, rfl, hnb, HE⟩ := hrel
    by_cases hkm : k < most
    · obtain ⟨q, hq⟩ : ∃ q, most - k = q + 1 := ⟨most - k - 1, by omega⟩
      have hq2 : most - (k + 1) = q := by omega
      by_cases hlt : k < s.size
      · have g1 : ((k : Int) == (s.size : Int)) = false := by simp; omega
        have hd : s.data.toList.drop k = s[k] :: s.data.toList.drop  (k + 1) := List.drop_eq_getElem_cons (by simpa using hlt)
        have hl9 := s[k].toNat_lt
        have cD := fun W => digit_any (s[k].toNat : Int) (by omega) (by omega) W
        have hlo := digI_lo (s[k].toNat : Int)
        obtain ⟨d, hdd⟩ : ∃ d, digI (s[k].toNat : Int) = d := ⟨_, rfl⟩
        rw [hdd] at cD hlo
        by_cases h8 : 16 ≤ d
        · have HN : Hid (numI 16 most 0 0 s.data.toList = (m, k)) := hid (by rw [HE.out, hd, hq, numI, hdd, if_pos h8])
          clear hd HE hq hq2 hdd hl9
          obtain ⟨hm0, hmb⟩ := hnb
          go_wp2_with (go_at_call 120; refine (cD _).mono ?_; rintro e w' ⟨rfl, rfl⟩)
          go_ret2
          exact ⟨by rw [HN.out]; rfl, rfl⟩
        · have HN : Hid (numI 16 most 0 0 s.data.toList = numI 16 (most - (k + 1)) (m * 16 + d) (k + 1) (s.data.toList.drop (k + 1))) := hid (by rw [HE.out, hd, hq, hq2, numI, hdd, if_neg h8])
          have g2 : decide (16 ≤ d) = false := by simpa using h8
          clear hd HE hq hq2 hdd hl9
          have hnb2 : NB (k + 1) (m * 16 + d) := by
            obtain ⟨hm0, hmb⟩ := hnb
            exact ⟨by omega, by omega⟩
          obtain ⟨hm0, hmb⟩ := hnb
          have hmb2 : m ≤ 4095 := by omega
          have H2 := hid hnb2
          clear hmb hnb2
          go_wp2_with (go_at_call 120; refine (cD _).mono ?_; rintro e w' ⟨rfl, rfl⟩)
          go_round
          case rel => exact ⟨k + 1, m * 16 + d, by omega, by omega, by go_num, by go_num, H2.out, HN⟩
          case measure => simp [intOf]; omega
      · obtain rfl : k = s.size := by omega
        have HN : Hid (numI 16 most 0 0 s.data.toList = (m, s.size)) := hid (by rw [HE.out, List.drop_of_length_le (by rw [len_toList]; exact Nat.le_refl _), hq, numI])
        clear HE hq hq2
        obtain ⟨hm0, hmb⟩ := hnb
        go_wp2
        go_ret2
        exact ⟨by rw [HN.out]; rfl, rfl⟩
    · obtain rfl : k = most := by omega
      have HN : Hid (numI 16 k 0 0 s.data.toList = (m, k)) := hid (by rw [HE.out, Nat.sub_self, numI])
      clear HE
      obtain ⟨hm0, hmb⟩ := hnb
      go_wp2
      go_ret2
      exact ⟨by rw [HN.out]; rfl, rfl⟩
end Ans
end Go.Proofs.YtialepcdbpofkaaGreat

namespace Go.Proofs.YtialepcdbpofkaaGreat
namespace Ans
open Go.RowKit
open Go.Lib (hid)
def faultV (e at_ : Int) : PanicEntry := { v := .iface 112 (.agg #[.int .i64 e, .int .i64 at_]), recovered := false }
theorem extract_from (s : ByteArray) (k : Nat) : (s.extract k s.size).data.toList = s.data.toList.drop k := by
  rw [ByteArray.data_extract, Array.toList_extract, List.extract_eq_take_drop, List.take_of_length_le]
  rw [List.length_drop, len_toList]; exact Nat.le_refl _
theorem extract_size (s : ByteArray) (k : Nat) : (s.extract k s.size).size = s.size - k := by
  rw [← len_toList, extract_from s k, List.length_drop, len_toList]
theorem mark_lt : ∀ c : UInt8, Lib.indexByte marksL c < 11 := all_u8 (by decide +kernel)
def meantS : ByteArray := ⟨#[92, 39, 34, 7, 8, 27, 12, 10, 13, 9, 11]⟩
theorem meant_at : ∀ j : Fin 11, (meantS[j.val]'j.isLt) = meantL.getD j.val 0 := by decide +kernel
theorem num_u8 {n : Int} (h0 : 0 ≤ n) (h2 : n ≤ 255) : ((n.toNat.toUInt8).toNat : Int) = n := by
  have : n.toNat % 256 = n.toNat := Nat.mod_eq_of_lt (by omega)
  simp [this]; omega
def escEnd (at_ : Int) : Option (UInt8 × Nat) → Ending
  | some (c, k) => .returned (.tuple #[.int .u8 c.toNat, .int .i64 k])
  | none => .panicked [faultV 33 at_]
theorem ret_two {k1 k2 : IntKind} {a b c d : Int} (h1 : a = c) (h2 : b = d) : Ending.returned (.tuple #[.int k1 a, .int k2 b]) = .returned (.tuple #[.int k1 c, .int k2 d]) := by rw [h1, h2]
set_option maxHeartbeats 2000000 in
theorem escaped_any (at_ : Int) (s : ByteArray) (hs : s.size ≤ maxLen) (w : World) :
    Calls Tryz.prog 102 #[.string s, .int .i64 at_] w fun e w' => e = escEnd at_ (escL s.data.toList) ∧ w = w' := by
  unfold maxLen at hs
  by_cases h0 : s.data.toList = []
  · obtain rfl := toList_empty s h0
    clear h0
    go_enter Tryz.func102, Tryz.ntmps102
    go_wp2
    exact ⟨rfl, rfl, rfl⟩
  · have hz : s.data.toList.isEmpty = false := by simpa using h0
    have g1 : ¬ s.toList = [] := by rw [toList_data]; exact h0
    have g2 : s.toList.isEmpty = false := by rw [toList_data]; exact hz
    have hlt : 0 < s.size := by
      rcases Nat.eq_zero_or_pos s.size with h | h
      · exact absurd (List.eq_nil_of_length_eq_zero (by rw [len_toList]; exact h)) h0
      · exact h
    have hd : s.data.toList = s[0] :: s.data.toList.drop 1 := by
      have := List.drop_eq_getElem_cons (l := s.data.toList) (i := 0) (by simpa using hlt)
      rw [List.drop_zero] at this
      exact this
    have HE : Hid (escL s.data.toList = escL (s[0] :: s.data.toList.drop 1)) := hid (by rw [← hd])
    have hmk := mark_lt s[0]
    have cI := fun W => (Tryz.strings_IndexByte ⟨#[92, 39, 34, 97, 98, 101, 102, 110, 114, 116, 118]⟩ (s[0].toNat : Int) W)
    rw [u8_toNat_cast s[0]] at cI
    clear hz h0
    by_cases hm : (0 : Int) ≤ Lib.indexByte marksL s[0]
    · obtain ⟨j, hj⟩ : ∃ j : Nat, Lib.indexByte marksL s[0] = j := ⟨(Lib.indexByte marksL s[0]).toNat, by omega⟩
      have HV : Hid (escL s.data.toList = some (meantL.getD j 0, 1)) := hid (by rw [HE.out, escL_cons, if_pos hm, hj]; rfl)
      have hj2 : Lib.indexByte [92, 39, 34, 97, 98, 101, 102, 110, 114, 116, 118] s[0] = j := hj
      rw [hj] at hmk
      have hj11 : j < 11 := by omega
      have HM := hid (meant_at ⟨j, hj11⟩)
      rw [hj2] at cI
      clear hm hj hj2 hmk HE hd
      go_enter Tryz.func102, Tryz.ntmps102
      go_wp2_with (go_at_call 43; refine (cI _).mono ?_; rintro e w' ⟨rfl, rfl⟩)
      go_ret2
      exact ⟨by rw [HV.out, ← HM.out]; rfl, rfl⟩
    · have hm' : Lib.indexByte [92, 39, 34, 97, 98, 101, 102, 110, 114, 116, 118] s[0] < 0 := Int.not_le.1 hm
      obtain ⟨i, hi⟩ : ∃ i, Lib.indexByte [92, 39, 34, 97, 98, 101, 102, 110, 114, 116, 118] s[0] = i := ⟨_, rfl⟩
      rw [hi] at cI hm'
      by_cases hx : s[0] = 120
      · have g3 : ((s[0].toNat : Int) == 120) = true := by rw [hx]; rfl
        have hex := extract_from s 1
        have cN := fun W => number_16 2 (by omega) (s.extract 1 s.size) W
        rw [hex, show ((2 : Nat) : Int) = 2 from rfl] at cN
        have hlo := numI_lo 16 2 0 0 (s.data.toList.drop 1)
        have hnn := numI_nonneg 16 (by omega) 2 0 0 (s.data.toList.drop 1) (by omega)
        obtain ⟨n, hn⟩ : ∃ n, (numI 16 2 0 0 (s.data.toList.drop 1)).1 = n := ⟨_, rfl⟩
        obtain ⟨d, hdd⟩ : ∃ d, (numI 16 2 0 0 (s.data.toList.drop 1)).2 = d := ⟨_, rfl⟩
        rw [hn, hdd] at cN
        rw [hn] at hnn
        rw [hdd] at hlo
        have HV : Hid (escL s.data.toList = if n = 0 ∨ 255 < n then none else some (n.toNat.toUInt8, 1 + d)) := hid (by rw [HE.out, escL_cons, if_neg hm, if_pos hx]; unfold numOf; rw [hn, hdd])
        have hd2 : d ≤ 2 := by omega
        clear hex hn hdd HE hi hm hx hlo hmk hd
        by_cases hbad : n = 0 ∨ 255 < n
        · have HW : Hid (escL s.data.toList = none) := hid (by rw [HV.out, if_pos hbad])
          clear HV
          by_cases hn0 : n = 0
          · subst hn0
            go_enter Tryz.func102, Tryz.ntmps102
            go_wp2_with (first | (go_at_call 43; refine (cI _).mono ?_; rintro e w' ⟨rfl, rfl⟩) | (go_at_call 108; (with_reducible refine (cN _).mono ?_); rintro e w' ⟨rfl, rfl⟩))
            exact ⟨rfl, by rw [HW.out]; rfl, rfl⟩
          · have h255 : 255 < n := hbad.resolve_left hn0
            have g4 : (n == 0) = false := by simpa using hn0
            clear hbad hn0
            go_enter Tryz.func102, Tryz.ntmps102
            go_wp2_with (first | (go_at_call 43; refine (cI _).mono ?_; rintro e w' ⟨rfl, rfl⟩) | (go_at_call 108; (with_reducible refine (cN _).mono ?_); rintro e w' ⟨rfl, rfl⟩))
            exact ⟨rfl, by rw [HW.out]; rfl, rfl⟩
        · have hn0 : n ≠ 0 := fun e => hbad (.inl e)
          have h255 : n ≤ 255 := by omega
          have HW : Hid (escL s.data.toList = some (n.toNat.toUInt8, 1 + d)) := hid (by rw [HV.out, if_neg hbad])
          have g4 : (n == 0) = false := by simpa using hn0
          clear hbad hn0 HV
          go_enter Tryz.func102, Tryz.ntmps102
          go_wp2_with (first | (go_at_call 43; refine (cI _).mono ?_; rintro e w' ⟨rfl, rfl⟩) | (go_at_call 108; (with_reducible refine (cN _).mono ?_); rintro e w' ⟨rfl, rfl⟩))
          go_ret2
          exact ⟨by rw [HW.out]; exact ret_two (num_u8 hnn h255).symm (by simp), rfl⟩
      · have g3 : ((s[0].toNat : Int) == 120) = false := u8_ne (n := 120) hx
        have cN := fun W => number_8 3 (by omega) s W
        rw [show ((3 : Nat) : Int) = 3 from rfl] at cN
        have hlo := numI_lo 8 3 0 0 s.data.toList
        have hnn := numI_nonneg 8 (by omega) 3 0 0 s.data.toList (by omega)
        obtain ⟨n, hn⟩ : ∃ n, (numI 8 3 0 0 s.data.toList).1 = n := ⟨_, rfl⟩
        obtain ⟨d, hdd⟩ : ∃ d, (numI 8 3 0 0 s.data.toList).2 = d := ⟨_, rfl⟩
        rw [hn, hdd] at cN
        rw [hn] at hnn
        rw [hdd] at hlo
        have HV : Hid (escL s.data.toList = if n = 0 ∨ 255 < n then none else some (n.toNat.toUInt8, 0 + d)) := hid (by rw [HE.out, escL_cons, if_neg hm, if_neg hx, ← hd]; unfold numOf; rw [hn, hdd])
        have hd2 : d ≤ 3 := by omega
        clear hn hdd HE hi hm hx hlo hmk hd
        by_cases hbad : n = 0 ∨ 255 < n
        · have HW : Hid (escL s.data.toList = none) := hid (by rw [HV.out, if_pos hbad])
          clear HV
          by_cases hn0 : n = 0
          · subst hn0
            go_enter Tryz.func102, Tryz.ntmps102
            go_wp2_with (first | (go_at_call 43; refine (cI _).mono ?_; rintro e w' ⟨rfl, rfl⟩) | (go_at_call 108; (with_reducible refine (cN _).mono ?_); rintro e w' ⟨rfl, rfl⟩))
            exact ⟨rfl, by rw [HW.out]; rfl, rfl⟩
          · have h255 : 255 < n := hbad.resolve_left hn0
            have g4 : (n == 0) = false := by simpa using hn0
            clear hbad hn0
            go_enter Tryz.func102, Tryz.ntmps102
            go_wp2_with (first | (go_at_call 43; refine (cI _).mono ?_; rintro e w' ⟨rfl, rfl⟩) | (go_at_call 108; (with_reducible refine (cN _).mono ?_); rintro e w' ⟨rfl, rfl⟩))
            exact ⟨rfl, by rw [HW.out]; rfl, rfl⟩
        · have hn0 : n ≠ 0 := fun e => hbad (.inl e)
          have h255 : n ≤ 255 := by omega
          have HW : Hid (escL s.data.toList = some (n.toNat.toUInt8, 0 + d)) := hid (by rw [HV.out, if_neg hbad])
          have g4 : (n == 0) = false := by simpa using hn0
          clear hbad hn0 HV
          go_enter Tryz.func102, Tryz.ntmps102
          go_wp2_with (first | (go_at_call 43; refine (cI _).mono ?_; rintro e w' ⟨rfl, rfl⟩) | (go_at_call 108; (with_reducible refine (cN _).mono ?_); rintro e w' ⟨rfl, rfl⟩))
          go_ret2
          exact ⟨by rw [HW.out]; exact ret_two (num_u8 hnn h255).symm (by simp), rfl⟩
end Ans
end Go.Proofs.YtialepcdbpofkaaGreat

namespace Go.Proofs.YtialepcdbpofkaaGreat
namespace Ans
open Go.RowKit
open Go.Lib (hid)
def octEnd (at_ : Nat) : Except Int (UInt8 × Nat) → Ending
  | .ok (c, k) => .returned (.tuple #[.int .u8 c.toNat, .int .i64 k])
  | .error e => .panicked [faultV e at_]
set_option maxHeartbeats 1000000 in
theorem octet_any (s : ByteArray) (k : Nat) (hs : s.size ≤ maxLen) (hk : k < s.size) (w : World) :
    Calls Tryz.prog 90 #[.string s, .int .i64 k] w fun e w' => e = octEnd k (octL (s.data.toList.drop k)) ∧ w = w' := by
  have cE := fun W => escaped_any (k : Int) (s.extract (k + 1) s.size) (by rw [extract_size]; omega) W
  rw [extract_from] at cE
  unfold maxLen at hs
  have HE : Hid (octL (s.data.toList.drop k) = octL (s[k] :: s.data.toList.drop (k + 1))) := hid (by rw [List.drop_eq_getElem_cons (by simpa using hk)]; rfl)
  by_cases h1 : s[k] = 92
  · have g1 : ((s[k].toNat : Int) == 92) = true := by rw [h1]; rfl
    cases he : escL (s.data.toList.drop (k + 1)) with
    | none =>
      rw [he] at cE
      change ∀ W, Calls _ _ _ W (fun e w' => e = .panicked [faultV 33 k] ∧ W = w') at cE
      have HV : Hid (octL (s.data.toList.drop k) = .error 33) := hid (by rw [HE.out, octL_cons, if_pos h1, he])
      clear h1 he HE
      go_enter Tryz.func90, Tryz.ntmps90
      go_wp2_with (go_at_call 102; (with_reducible refine (cE _).mono ?_); rintro e w' ⟨rfl, rfl⟩)
      exact ⟨rfl, by rw [HV.out]; rfl, rfl⟩
    | some p =>
      obtain ⟨b, j⟩ := p
      have h2 := escL_some he
      rw [List.length_drop, len_toList] at h2
      rw [he] at cE
      change ∀ W, Calls _ _ _ W (fun e w' => e = .returned (.tuple #[.int .u8 b.toNat, .int .i64 j]) ∧ W = w') at cE
      have HV : Hid (octL (s.data.toList.drop k) = .ok (b, 1 + j)) := hid (by rw [HE.out, octL_cons, if_pos h1, he])
      have hj1 := h2.2.2
      clear h1 he HE h2
      go_enter Tryz.func90, Tryz.ntmps90
      go_wp2_with (go_at_call 102; (with_reducible refine (cE _).mono ?_); rintro e w' ⟨rfl, rfl⟩)
      go_ret2
      exact ⟨by rw [HV.out]; exact ret_two rfl (by simp), rfl⟩
  · have g1 : ((s[k].toNat : Int) == 92) = false := u8_ne (n := 92) h1
    by_cases h2 : s[k] = 0
    · have g2 : ((s[k].toNat : Int) == 0) = true := by rw [h2]; rfl
      have HV : Hid (octL (s.data.toList.drop k) = .error 61) := hid (by rw [HE.out, octL_cons, if_neg h1, if_pos (.inl h2)])
      clear h1 h2 HE cE
      go_enter Tryz.func90, Tryz.ntmps90
      go_wp2
      exact ⟨rfl, by rw [HV.out]; rfl, rfl⟩
    · have g2 : ((s[k].toNat : Int) == 0) = false := u8_ne (n := 0) h2
      by_cases h3 : s[k] = 39
      · have g3 : ((s[k].toNat : Int) == 39) = true := by rw [h3]; rfl
        have HV : Hid (octL (s.data.toList.drop k) = .error 61) := hid (by rw [HE.out, octL_cons, if_neg h1, if_pos (.inr h3)])
        clear h1 h2 h3 HE cE
        go_enter Tryz.func90, Tryz.ntmps90
        go_wp2
        exact ⟨rfl, by rw [HV.out]; rfl, rfl⟩
      · have g3 : ((s[k].toNat : Int) == 39) = false := u8_ne (n := 39) h3
        have HV : Hid (octL (s.data.toList.drop k) = .ok (s[k], 1)) := hid (by rw [HE.out, octL_cons, if_neg h1, if_neg (fun e => e.elim h2 h3)])
        clear h1 h2 h3 HE cE
        go_enter Tryz.func90, Tryz.ntmps90
        go_wp2
        go_ret2
        exact ⟨by rw [HV.out]; rfl, rfl⟩
def Cells3 (B : Nat) (s : Value) (n e : Int) (w : World) : Prop :=
  w.heap[B]? = some (.cells #[s] 9 (0, 0)) ∧ w.heap[B + 1]? = some (.cells #[.int .i64 n] 3 (0, 0)) ∧ w.heap[B + 2]? = some (.cells #[.int .i64 e] 26 (0, 0))
theorem run_assert_fault (v : Value) (w : World) : (Instr.typeAssert (.iface 112 v) 20 112 false).run Tryz.prog w = .ok v w := by
  simp [Instr.typeAssert, run_underlying Tryz.underlying112, go_sem, Result.andThen]
theorem fixed_idle (a b c : Addr) (w : World) :
    CallsD Tryz.prog 89 #[.pointer (some a), .pointer (some b), .pointer (some c)] .returning w fun e u' w' => e = .returned (.tuple #[]) ∧ u' = .returning ∧ w' = w := by
  refine callsD_of_wpS Tryz.func89 rfl fun c₀ cs hu => ?_
  apply wpS_seq
  apply wpS_region
  simp [wpOpsS, go_sem, recoverD, hu, Tryz.ntmps89, Exit.thenS]
  refine wpS_of_wp ?_
  go_wp2
  cases c₀
  simp_all [bodyPostS, results, Tryz.results89]
theorem heap_set {w : World} {b c : Nat} (h : c ≠ b) (v : Value) : (w.setCell ⟨b, 0, none⟩ v).heap[c]? = w.heap[c]? := Below.heap_setCell _ _ _ _ h
theorem Cells3.stored {B : Nat} {s : Value} {n0 e0 : Int} {w : World} (h : Cells3 B s n0 e0 w) (s' : Value) (n e : Int) :
    Cells3 B s' n e (((w.setCell ⟨B, 0, none⟩ s').setCell ⟨B + 1, 0, none⟩ (.int .i64 n)).setCell ⟨B + 2, 0, none⟩ (.int .i64 e)) := by
  obtain ⟨h1, h2, h3⟩ := h
  refine ⟨?_, ?_, ?_⟩
  · rw [heap_set (by omega), heap_set (by omega)]; exact one_setCell h1
  · rw [heap_set (by omega)]; exact one_setCell ((heap_set (by omega) _).trans h2)
  · exact one_setCell ((heap_set (by omega) _).trans ((heap_set (by omega) _).trans h3))
set_option maxHeartbeats 1000000 in
theorem fixed_panic (B : Nat) (s : Value) (n0 e0 : Int) (n e : Int) (older : List PanicEntry) (w : World) (h : Cells3 B s n0 e0 w) :
    CallsD Tryz.prog 89 #[.pointer (some ⟨B, 0, none⟩), .pointer (some ⟨B + 1, 0, none⟩), .pointer (some ⟨B + 2, 0, none⟩)] (.panicking (faultV e n :: older)) w fun e' u' w' =>
      e' = .returned (.tuple #[]) ∧ u' = .panicking ({ faultV e n with recovered := true } :: older) ∧ Cells3 B (.string .empty) n e w' ∧ Below B w w' := by
  have hta := run_assert_fault
  refine callsD_of_wpS Tryz.func89 rfl fun c₀ cs hu => ?_
  apply wpS_seq
  apply wpS_region
  simp [wpOpsS, go_sem, recoverD, hu, Tryz.ntmps89, Exit.thenS, faultV]
  refine wpS_of_wp ?_
  change Code.wp _ _ _ ⟨#[.pointer (some ⟨B, 0, none⟩), .pointer (some ⟨B + 1, 0, none⟩), .pointer (some ⟨B + 2, 0, none⟩), .iface 112 (.agg #[.int .i64 e, .int .i64 n]), undef, .iface 112 (.agg #[.int .i64 e, .int .i64 n]), undef, undef, undef, undef, undef, undef, undef, undef], []⟩ _
  go_wp2
  have hB2 : B + 2 < w.heap.size := lt_of_block h.2.2
  have h' : Cells3 B s n0 e0 (w.alloc (.cells #[.int .i64 e, .int .i64 n] 112)) :=
    ⟨(Below.heap_alloc w _ B (by omega)).trans h.1, (Below.heap_alloc w _ (B + 1) (by omega)).trans h.2.1, (Below.heap_alloc w _ (B + 2) (by omega)).trans h.2.2⟩
  have hn : (w.alloc (.cells #[.int .i64 e, .int .i64 n] 112)).heap[w.heap.size]? = some (.cells #[.int .i64 e, .int .i64 n] 112 (0, 0)) := heap_alloc_new w _
  have hbl : Below B w (w.alloc (.cells #[.int .i64 e, .int .i64 n] 112)) := (Below.refl B w).alloc (by omega) _
  have HX : Hid (Cells3 B s n0 e0 (w.alloc (.cells #[.int .i64 e, .int .i64 n] 112)) ∧ Below B w (w.alloc (.cells #[.int .i64 e, .int .i64 n] 112))) := hid ⟨h', hbl⟩
  generalize w.alloc (.cells #[.int .i64 e, .int .i64 n] 112) = w2 at *
  have a1 := cell_of_one h'.1
  have a2 := cell_of_one h'.2.1
  have a3 := cell_of_one h'.2.2
  have f1 := free_of_one h'.1
  have f2 := free_of_one h'.2.1
  have f3 := free_of_one h'.2.2
  have b0 : w2.cell? ⟨w.heap.size, 0, none⟩ = some (.int .i64 e) := by simp [World.cell?, hn]
  have b1 : w2.cell? ⟨w.heap.size, 1, none⟩ = some (.int .i64 n) := by simp [World.cell?, hn]
  obtain ⟨N, hN⟩ : ∃ N, w.heap.size = N := ⟨_, rfl⟩
  rw [hN] at hB2 b0 b1 ⊢
  have hne1 : B ≠ N := by omega
  have hne2 : B + 1 ≠ N := by omega
  have hne3 : B + 2 ≠ N := by omega
  clear h h' hn hbl
  go_region
  have hst : Cells3 B (.string .empty) n e (((w2.setCell ⟨B, 0, none⟩ (.string ⟨#[]⟩)).setCell ⟨B + 1, 0, none⟩ (.int .i64 n)).setCell ⟨B + 2, 0, none⟩ (.int .i64 e)).drew := HX.out.1.stored _ _ _
  have hbb : Below B w (((w2.setCell ⟨B, 0, none⟩ (.string ⟨#[]⟩)).setCell ⟨B + 1, 0, none⟩ (.int .i64 n)).setCell ⟨B + 2, 0, none⟩ (.int .i64 e)).drew :=
    (((HX.out.2.setCell (Nat.le_refl _) _).setCell (Nat.le_add_right _ _) _).setCell (Nat.le_add_right _ _) _).drew
  generalize (((w2.setCell ⟨B, 0, none⟩ (.string ⟨#[]⟩)).setCell ⟨B + 1, 0, none⟩ (.int .i64 n)).setCell ⟨B + 2, 0, none⟩ (.int .i64 e)).drew = w3 at *
  change bodyPostS _ _ _ _ _ _ _ _ _
  cases c₀
  simp [bodyPostS, results, Tryz.results89]
  exact ⟨hst, hbb⟩
end Ans
end Go.Proofs.YtialepcdbpofkaaGreat
