/- strings.IndexAny at " \t" and a text of more than eight octets, however long: its walk. Conditions: sizes. -/
import Derived.Test.YtchnopfnjkbelaaDoorIdxB
namespace Go.Proofs.YtchnopfnjkbelaaDoor
open Go.RowKit
open Go.Lib (hid)

/-- The world behind the making of the set: its two blocks. -/
def setW (w : World) : World := (w.alloc (.cells (Lib.setCells [32, 9]) 74)).alloc (.cells (Lib.setCells [32, 9]) 74)
theorem setW_cell (w : World) (x : UInt8) : (setW w).cell? ⟨w.heap.size + 1, x.toNat, none⟩ = some (.bool (blkW x)) := by
  rw [← in_blanks x]
  unfold setW
  rw [World.cell?_alloc_at _ _ _ _ (by simp), Lib.setCells_at]

set_option linter.unusedSimpArgs false in
set_option maxRecDepth 100000 in
set_option maxHeartbeats 4000000 in
theorem indexAny_long (l : List UInt8) (w : World) (h8 : 8 < l.length) (hl : l.length ≤ 281474976710656) :
    Calls Tryd.prog 41 #[.string ⟨l.toArray⟩, .string blanksB] w fun e w' => e = .returned (.int .i64 (idxW l)) ∧ Below w.heap.size w w' := by
  have h116 : (Tryd.prog.info? 74).map (fun i => (i.zero, i.size)) = some (some (.agg (Array.replicate 256 (.bool false))), 256) := by kernel_rfl
  have hz : ∀ w, (Go.sizeOf 74).run Tryd.prog w = .ok 256 w := Tryd.lays153.z116
  have hM := Tryd.strings_makeASCIISet (zero_of_info h116).1 blanksB w (by decide) (ascii_of_all (by decide))
  rw [show blanksB.data.toList = [32, 9] from rfl] at hM
  obtain ⟨s, hs⟩ : ∃ s : ByteArray, s = ⟨l.toArray⟩ := ⟨_, rfl⟩
  rw [← hs]
  have hsz : s.size = l.length := by rw [hs]; simp [ByteArray.size]
  have hget : ∀ (k : Nat) (h : k < l.length) (h' : k < s.size), s[k]'h' = l[k] := fun k h h' => by subst hs; simp [ByteArray.getElem_eq_getElem_data]
  have hemp : blanksB.toList.isEmpty = false := by rw [toList_data]; rfl
  have hn1 : ((blanksB.size : Int) == 1) = false := rfl
  have h8z : decide ((8 : Int) < (l.length : Int)) = true := decide_eq_true (by omega)
  have cU := fun W => Tryd.strings_shouldUseASCIISet (l.length : Int) W
  rw [h8z] at cU
  have hsc : (storeCells ⟨w.heap.size + 1, 0, none⟩ (Lib.setCells [32, 9]).toList 0).run Tryd.prog ((w.alloc (.cells (Lib.setCells [32, 9]) 74)).alloc (.cells Tryd.zeroCells74 74)) = .ok () (setW w) := by
    have := run_storeCells_new (P := Tryd.prog) (w.alloc (.cells (Lib.setCells [32, 9]) 74)) 74 Tryd.zeroCells74 (Lib.setCells [32, 9]) (by rw [Lib.setCells_size]; exact (zero_of_info h116).2) (by rw [Lib.setCells_size]; kernel_rfl) (Lib.setCells_one _)
    simpa [setW] using this
  have hss := Lib.setCells_size [32, 9]
  have HS := hid hs
  have HG := hid hget
  clear hs hget h8z
  go_enter Tryd.func41, Tryd.ntmps41
  go_wp2_with fail
  refine (cU _).mono ?_
  rintro e w1 ⟨rfl, hw⟩
  rw [hw]
  clear hw w1
  go_wp2_with fail
  refine hM.mono ?_
  rintro e w1 ⟨rfl, hw⟩
  rw [hw]
  clear hw w1 hM
  go_wp2_with fail
  clear hsc cU
  have hB : Below w.heap.size w (setW w) := ((Below.refl _ _).alloc (Nat.le_refl _) _).alloc (by simp) _
  have HB := hid hB
  have HC := hid (setW_cell w)
  clear hB hss
  generalize setW w = W2 at *
  go_loopw [8] (fun vi wr => ∃ i : Nat, i ≤ l.length ∧ vi = .int .i64 i ∧ Hid (∀ j (hj : j < l.length), j < i → blkW l[j] = false) ∧ Hid (W2 = wr)) (fun vi _ => l.length - (intOf vi).toNat)
  case atStart => exact ⟨0, Nat.zero_le _, rfl, hid (fun j _ h => absurd h (Nat.not_lt_zero _)), hid rfl⟩
  case round =>
    obtain ⟨i, hi, rfl, HN, HW⟩ := hrel
    obtain rfl := HW.out
    clear HW
    by_cases hlt : i < l.length
    · have his : i < s.size := by omega
      have hg := HG.out i hlt his
      obtain ⟨x, hx⟩ : ∃ x, l[i] = x := ⟨_, rfl⟩
      rw [hx] at hg
      have HX := hid hx
      have hgx : ∀ h, s[i]'h = x := fun _ => hg
      have hcx := HC.out x
      clear hx hg
      cases hb : blkW x
      · rw [hb] at hcx
        have cX := fun W (h : W.cell? ⟨w.heap.size + 1, x.toNat, none⟩ = some (.bool false)) => Tryd.asciiSet_contains (w.heap.size + 1) x false W h
        have HN2 : Hid (∀ j (hj : j < l.length), j < i + 1 → blkW l[j] = false) := hid fun j hj hji => by
          by_cases e : j = i
          · subst e; rw [HX.out]; exact hb
          · exact HN.out j hj (by omega)
        have HI := hid (show i + 1 ≤ l.length by omega)
        clear hb HN HX
        go_wp2_with fail
        refine (cX _ hcx).mono ?_
        rintro e w3 ⟨rfl, rfl⟩
        clear cX
        go_wp2_with fail
        go_roundw
        case rel => first | exact ⟨i + 1, HI.out, by go_num, HN2, hid trivial⟩ | exact ⟨i + 1, HI.out, by go_num, HN2, hid rfl⟩
        case measure => simp [intOf]; omega
      · rw [hb] at hcx
        have cX := fun W (h : W.cell? ⟨w.heap.size + 1, x.toNat, none⟩ = some (.bool true)) => Tryd.asciiSet_contains (w.heap.size + 1) x true W h
        have HE := hid (idx_hit l i hlt HN.out (by rw [HX.out]; exact hb))
        clear hb HN HX
        go_wp2_with fail
        refine (cX _ hcx).mono ?_
        rintro e w3 ⟨rfl, rfl⟩
        clear cX
        go_wp2_with fail
        go_ret
        exact ⟨by rw [HE.out]; rfl, HB.out⟩
    · have HE := hid (idx_none l fun j hj => HN.out j hj (by omega))
      clear HN
      go_wp2_with fail
      go_ret
      exact ⟨by rw [HE.out]; rfl, HB.out⟩

theorem indexAny_all (l : List UInt8) (w : World) (hl : l.length ≤ 281474976710656) :
    Calls Tryd.prog 41 #[.string ⟨l.toArray⟩, .string blanksB] w fun e w' => e = .returned (.int .i64 (idxW l)) ∧ Below w.heap.size w w' := by
  by_cases h8 : l.length ≤ 8
  · exact indexAny_short l w h8
  · exact indexAny_long l w (by omega) hl
end Go.Proofs.YtchnopfnjkbelaaDoor
