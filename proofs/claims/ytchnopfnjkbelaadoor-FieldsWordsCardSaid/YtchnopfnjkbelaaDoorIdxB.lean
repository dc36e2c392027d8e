/- strings.IndexAny at " \t" and any text: its walk (a text of at most eight octets), and both together. Conditions: sizes. -/
import Derived.Test.YtchnopfnjkbelaaDoorIdxA
import Derived.Shelf.Strings.SlTrimAscii
namespace Go.Proofs.YtchnopfnjkbelaaDoor
open Go.RowKit
open Go.Lib (hid)

set_option maxRecDepth 100000 in
set_option maxHeartbeats 4000000 in
theorem indexAny_short (l : List UInt8) (w : World) (h8 : l.length ≤ 8) :
    Calls Tryd.prog 41 #[.string ⟨l.toArray⟩, .string blanksB] w fun e w' => e = .returned (.int .i64 (idxW l)) ∧ Below w.heap.size w w' := by
  obtain ⟨s, hs⟩ : ∃ s : ByteArray, s = ⟨l.toArray⟩ := ⟨_, rfl⟩
  rw [← hs]
  have hsz : s.size = l.length := by rw [hs]; simp [ByteArray.size]
  have hget : ∀ (k : Nat) (h : k < l.length) (h' : k < s.size), s[k]'h' = l[k] := fun k h h' => by subst hs; simp [ByteArray.getElem_eq_getElem_data]
  have hdp := decode_plain l
  rw [← hs] at hdp
  have hemp : blanksB.toList.isEmpty = false := by rw [toList_data]; rfl
  have hn1 : ((blanksB.size : Int) == 1) = false := rfl
  have h8z : decide ((8 : Int) < (l.length : Int)) = false := decide_eq_false (by omega)
  have cU := fun W => Tryd.strings_shouldUseASCIISet (l.length : Int) W
  rw [h8z] at cU
  have HS := hid hs
  have HG := hid hget
  have HD := hid hdp
  clear hs hget hdp
  go_enter Tryd.func41, Tryd.ntmps41
  go_wp2_with fail
  refine (cU _).mono ?_
  rintro e w1 ⟨rfl, rfl⟩
  go_wp2_with fail
  go_loopg [9, 10] l.length (fun g _ _ wx => ∃ i : Nat, g = l.length - i ∧ wx.heap[w1.heap.size]? = some (.stringIter s i) ∧ Hid (Below w1.heap.size w1 wx) ∧ Hid (∀ j (hj : j < l.length), j < i → blkW l[j] = false))
  case atStart => exact ⟨0, rfl, World.iter_heap _ _ _, hid ((Below.refl _ _).alloc (Nat.le_refl _) _), hid (fun j _ h => absurd h (Nat.not_lt_zero _))⟩
  case round =>
    obtain ⟨i, rfl, hit, HB, HN⟩ := hrel
    by_cases hi : i < l.length
    · have his : i < s.size := by omega
      by_cases ha : l[i].toNat < 128
      · have hnx := fun ty => Lib.run_next_ascii_at (P := Tryd.prog) wr w1.heap.size s i ty hit his (by rw [HG.out i hi his]; exact ha)
        have hg := HG.out i hi his
        obtain ⟨x, hx⟩ : ∃ x, l[i] = x := ⟨_, rfl⟩
        rw [hx] at ha hg
        rw [hg] at hnx
        have HX := hid hx
        have hcon := Lib.contains_iff_indexByte blanksB.data.toList x
        have hcb : blanksB.data.toList.contains x = blkW x := in_blanks x
        rw [hcb] at hcon
        have hback : ((x.toNat : Int)).toNat.toUInt8 = x := by simp
        have cI := fun W => Tryd.strings_IndexRune_ascii blanksB (x.toNat : Int) W (by omega) (by omega)
        rw [hback] at cI
        have hit2 := Lib.iterAt_heap wr w1.heap.size s i (i + 1) hit
        have HB2 := hid (Lib.below_iterAt HB.out (Nat.le_refl _) s (i + 1))
        clear hg hx hback hcb hit his
        generalize wr.iterAt w1.heap.size s (i + 1) = W2 at *
        cases hb : blkW x
        · rw [hb] at hcon
          have hlt : decide ((0 : Int) ≤ Lib.indexByte blanksB.data.toList x) = false := hcon.symm
          have HN2 : Hid (∀ j (hj : j < l.length), j < i + 1 → blkW l[j] = false) := hid fun j hj hji => by
            by_cases e : j = i
            · subst e; rw [HX.out]; exact hb
            · exact HN.out j hj (by omega)
          clear hcon hb HN HX HB
          go_wp2_with fail
          refine (cI _).mono ?_
          rintro e w3 ⟨rfl, rfl⟩
          go_wp2_with fail
          go_roundg (l.length - (i + 1))
          case measure => omega
          case rel => exact ⟨i + 1, rfl, hit2, HB2, HN2⟩
        · rw [hb] at hcon
          have hge : decide ((0 : Int) ≤ Lib.indexByte blanksB.data.toList x) = true := hcon.symm
          have HE := hid (idx_hit l i hi HN.out (by rw [HX.out]; exact hb))
          clear hcon hb HN HX HB
          go_wp2_with fail
          refine (cI _).mono ?_
          rintro e w3 ⟨rfl, rfl⟩
          go_wp2_with fail
          go_ret
          exact ⟨by rw [HE.out]; rfl, HB2.out⟩
      · have hnx := fun ty => Lib.run_next_any_at (P := Tryd.prog) wr w1.heap.size s i ty hit his
        have hh := decode_high s i his (by rw [HG.out i hi his]; omega)
        have hle := decode_le s i
        have hpl := HD.out i hi (by omega)
        obtain ⟨r, wd, hrw⟩ : ∃ r wd, Utf8.decode s i = (r, wd) := ⟨_, _, rfl⟩
        rw [hrw] at hnx hh hle hpl
        simp only at hnx hh hle hpl
        have HN2 : Hid (∀ j (hj : j < l.length), j < i + wd → blkW l[j] = false) := hid fun j hj hji => by
          by_cases e : j < i
          · exact HN.out j hj e
          · have h1 := hpl j hj (by omega) hji
            have n1 : l[j] ≠ 32 := fun e => by rw [e] at h1; exact absurd h1 (by decide)
            have n2 : l[j] ≠ 9 := fun e => by rw [e] at h1; exact absurd h1 (by decide)
            simp [blkW, n1, n2]
        have cI := fun W => indexRune_hi (r : Int) W (by omega) (by omega)
        have hit2 := Lib.iterAt_heap wr w1.heap.size s i (i + wd) hit
        have HB2 := hid (Lib.below_iterAt HB.out (Nat.le_refl _) s (i + wd))
        clear hrw hle hpl hit his ha HN HB
        generalize wr.iterAt w1.heap.size s (i + wd) = W2 at *
        go_wp2_with fail
        refine (cI _).mono ?_
        rintro e w3 ⟨rfl, hb3⟩
        have hit3 := (hb3.block _ (lt_of_block hit2)).trans hit2
        have HB3 := hid (HB2.out.trans (hb3.mono HB2.out.size))
        clear hb3 hit2 cI
        go_wp2_with fail
        go_roundg (l.length - (i + wd))
        case measure => omega
        case rel => exact ⟨i + wd, rfl, hit3, HB3, HN2⟩
    · have hnx := fun ty => Lib.run_next_end_at (P := Tryd.prog) wr w1.heap.size s i ty hit (by omega)
      have HE := hid (idx_none l fun j hj => HN.out j hj (by omega))
      clear HN hit
      go_wp2_with fail
      go_ret
      exact ⟨by rw [HE.out]; rfl, HB.out⟩

theorem indexAny_any (l : List UInt8) (w : World) (hl : l.length ≤ 4294967280) :
    Calls Tryd.prog 41 #[.string ⟨l.toArray⟩, .string blanksB] w fun e w' => e = .returned (.int .i64 (idxW l)) ∧ Below w.heap.size w w' := by
  by_cases h8 : l.length ≤ 8
  · exact indexAny_short l w h8
  · have hsz : (⟨l.toArray⟩ : ByteArray).size = l.length := by simp [ByteArray.size]
    have h116 : (Tryd.prog.info? 74).map (fun i => (i.zero, i.size)) = some (some (.agg (Array.replicate 256 (.bool false))), 256) := by kernel_rfl
    refine (Any.strings_IndexAny_long Tryd.lays153 (zero_of_info h116).1 (zero_of_info h116).2 ⟨l.toArray⟩ blanksB w (by decide) (by omega) (by omega) (by decide) (ascii_of_all (by decide))).mono ?_
    rintro e w' ⟨rfl, rfl⟩
    refine ⟨by rw [show (⟨l.toArray⟩ : ByteArray).data.toList = l from rfl, show blanksB.data.toList = [32, 9] from rfl, index_any], ?_⟩
    exact ((Below.refl _ _).alloc (Nat.le_refl _) _).alloc (by simp) _
end Go.Proofs.YtchnopfnjkbelaaDoor
