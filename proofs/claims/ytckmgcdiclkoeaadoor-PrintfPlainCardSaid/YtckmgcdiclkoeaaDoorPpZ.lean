/- The program's calls tell what printf's laws ask; Go's table of bits, out of what the rows list. Conditions: sizes. -/
import Derived.Test.YtckmgcdiclkoeaaDoorPpG
import Derived.Test.YtckmgcdiclkoeaaDoorPrC
import Derived.ProofKit
import Derived.LaidMore
import Derived.OpenShut
import Derived.Stop.Joined
namespace Go.Proofs.YtckmgcdiclkoeaaDoor
open Go.ChangeShapes Go.WideShapes Go.ChangeAt Go.WideElems Go.RowKit

theorem format_ok : FormatOk := fun f A c args W h1 h2 h3 h4 => format_any f A c args W h1 h2 h3 h4
theorem escape_ok : EscapeOk := fun s W h => escape_any s W (by omega)
theorem conv_ok : ConvOk := fun s W h => pconv_any s W (by omega)

theorem g_tab32 : Tryd.prog.globalNamed "math/bits.deBruijn32tab" = some 4 := by kernel_rfl
theorem g_tab64 : Tryd.prog.globalNamed "math/bits.deBruijn64tab" = some 5 := by kernel_rfl
theorem t_tab64 : (Tryd.prog.globals[5]?).map (·.type) = some 137 := by kernel_rfl
set_option maxRecDepth 100000 in
theorem tab_of_laid {W : World} (h : laidMetH Tryd.prog [("math/bits.deBruijn32tab", Rows.laid_math_bits_deBruijn32tab), ("math/bits.deBruijn64tab", Rows.laid_math_bits_deBruijn64tab), ("internal/strconv.uint64pow10", Rows.laid_internal_strconv_uint64pow10), ("unicode/utf8.acceptRanges", Rows.laid_unicode_utf8_acceptRanges), ("unicode/utf8.first", Rows.laid_unicode_utf8_first)] W) : Tab W := by
  rw [MakeChecks.laidMetH_plain _ _ _ (by kernel_rfl)] at h
  obtain ⟨ps, ⟨g0, t0, cs0, f0, p0, q0, hg0, ht0, hv0, hd0, ⟨g1, t1, cs1, f1, p1, q1, hg1, ht1, hv1, hd1, _, _⟩, _⟩, _, _⟩ := h
  obtain rfl := Option.some.inj (g_tab64.symm.trans hg1)
  obtain rfl := Option.some.inj (t_tab64.symm.trans ht1)
  have c5 : Tryd.prog.cellsOf 5 = 1 := by kernel_rfl
  have cA : Tryd.prog.cellsOf 137 = 64 := by kernel_rfl
  obtain ⟨xs, m1, rfl, hx1, hlen, hn3, hel⟩ := DataW.trod_array Tryd.underlying137 hd1
  have hL : (Rows.laid_math_bits_deBruijn64tab : DataW Unit) = .agg (xs.map (·.1)) := (Prod.mk.inj hx1).1
  have key : ∀ (i : Nat) (m : Int), i < 64 → (match (Rows.laid_math_bits_deBruijn64tab : DataW Unit) with | .agg l => l[i]? | _ => none) = some (.lit (.int .u8 m)) → W.cell? ⟨5, i, none⟩ = some (.int .u8 m) := fun i m hi hd => by
    obtain ⟨x, hx⟩ : ∃ x, xs[i]? = some x := ⟨xs[i], List.getElem?_eq_getElem (by omega)⟩
    have h0 := hel i hi
    rw [hx, c5] at h0
    obtain ⟨k, e1, e2, -⟩ := DataW.trod_int Tryd.underlying5 h0
    rw [hL] at hd
    have hk : (xs.map (·.1))[i]? = some (.lit (.int .u8 k)) := by rw [List.getElem?_map, hx, e2]; rfl
    have hmk : k = m := by
      have := hk.symm.trans hd
      simpa using this
    subst hmk
    rw [World.var?_cell hg1 hv1 i]
    rw [Nat.mul_one] at e1
    have h2 : ((cs1.toList.drop i).take 1)[0]? = some (.int .u8 k) := by rw [e1]; rfl
    rw [List.getElem?_take_of_lt (by omega), List.getElem?_drop, Nat.add_zero, Array.getElem?_toList] at h2
    exact h2
  exact ⟨key 7 3 (by decide) rfl, key 15 4 (by decide) rfl⟩
end Go.Proofs.YtckmgcdiclkoeaaDoor
