/- Plain mathematics: what Remove leaves. No conditions. -/
import Derived.Test.YtngllipfnbmpeaaAlive07
namespace Go.Proofs.Ytngllipfnbmpeaa
open Go.RowKit
open Go.Lib (hid)

theorem remQ_err {t : List ND} {p : List UInt8} {b : Bool} (h : (remQ t p b).2 ≠ 0) : (remQ t p b).1 = [] := by
  unfold remQ at h ⊢
  split
  · rfl
  · split
    · rfl
    · split
      · rfl
      · rename_i h1 h2 h3
        rw [if_neg h1, if_neg h2, if_neg h3] at h
        exact absurd rfl h
theorem remQ_mem {t : List ND} {p : List UInt8} {b : Bool} {y : ND} (h : y ∈ (remQ t p b).1) : y ∈ t := by
  unfold remQ at h
  split at h
  · cases h
  · split at h
    · cases h
    · split at h
      · cases h
      · exact (outL_mem.1 h).1
theorem remQ_len (t : List ND) (p : List UInt8) (b : Bool) : (remQ t p b).1.length ≤ t.length := by
  unfold remQ
  split
  · exact Nat.zero_le _
  · split
    · exact Nat.zero_le _
    · split
      · exact Nat.zero_le _
      · exact List.length_filter_le _ _
theorem remQ_ask {t : List ND} {p : List UInt8} {b : Bool} (h : (remQ t p b).2 = 0) : OkT t ∧ 0 ∉ p ∧ p ≠ [] := by
  unfold remQ at h
  by_cases h1 : (askQ t p).2 ≠ 0
  · rw [if_pos h1] at h; exact absurd h h1
  · exact askQ_of (Classical.not_not.1 h1)
/-- A row of its own is no longer than its room. -/
theorem own_cap {w : World} {N n e k c : Nat} {A : Option Addr} {xs : List Value} (h : w.ownsRow N e k (.slice A n c) n xs) : n ≤ c := by
  rcases h.2 with ⟨hv, h0⟩ | ⟨g, cap, cur, hv, h1, h2, h3, h4, h5, h6⟩
  · cases hv; omega
  · cases hv; first | exact h3 | exact h4 | exact h5 | omega
end Go.Proofs.Ytngllipfnbmpeaa
