/- The law LexQuoted: a text in ' ' is one quoted part; of a script of more than MaxFile octets Word tells ErrLong. Conditions: sizes. -/
import Derived.Test.YtialepcdbpofkaaGreatQuo13
namespace Go.Proofs.YtialepcdbpofkaaGreat
open Go.RowKit
open Go.Lib (hid)

theorem long_ok : LongOk := by
  intro l post bash W hall hl h6 hz
  obtain ⟨n, hrun⟩ := quoted_run l post bash hl hz hall
  refine (word_any _ hz bash n _ hrun (fun q b h => by cases h; simp [quoB]) (fun e q h => by cases h) (fun q b h => by cases h; rw [quoT_size]; omega) W).mono fun e w' h => ?_
  obtain ⟨h1, h2⟩ := WPost.ok (l := [textPt l true]) h
  rw [if_neg (by omega)] at h2
  exact ⟨h1, 0, h2⟩
theorem quoted_full (s rest : ByteArray) (bash : Bool) (w : World) (hs : s.size ≤ 140737488351232) (hr : rest.size ≤ 140737488351232) :
    Calls Tryz.prog 3 #[.string s, .string rest, .bool bash] w fun e w' => e = .returned (.bool true) ∧ Below w.heap.size w w' := quoted_walk long_ok s rest bash w hs hr
end Go.Proofs.YtialepcdbpofkaaGreat
