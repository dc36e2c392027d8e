/- PrintfTexts, PrintfWide and PrintfPlain, at any arguments. No conditions. -/
import Derived.Test.YtckmgcdiclkoeaaDoorFull09
import Derived.Test.YtckmgcdiclkoeaaDoorLiftF
namespace Go.Proofs.YtckmgcdiclkoeaaDoor
open Go.RowKit

theorem texts_first (s : ByteArray) (w : World) (hs : s.size ≤ 140737488351232) (hT : Tab w) :
    Calls Tryd.prog 3 #[.string s] w fun e w' => e = .returned (.bool true) ∧ Below w.heap.size w w' :=
  texts_full s.data.toList w (by rw [Array.length_toList]; exact hs) hT
theorem wide_first (s : ByteArray) (n : Int) (w : World) (hs : s.size ≤ 140737488351232) (_ : (Lit.int .i64 n).wf = true) (hT : Tab w) :
    Calls Tryd.prog 4 #[.string s, .int .i64 n] w fun e w' => e = .returned (.bool true) ∧ Below w.heap.size w w' :=
  wide_full format_ok (fun f s p g W h hf hs hR hp hT => format_one f s p g W h hf hs hR hp hT) s.data.toList n w (by rw [Array.length_toList]; exact hs) hT
theorem plain_first (s : ByteArray) (A : Option Addr) (c : Nat) (l : List (List UInt8)) (w : World) (hs : s.size ≤ 140737488351232) (hP : TextsP w (fun _ => True) A l) (hlc : l.length ≤ c) (hm : l.length * 16 ≤ 140737488351232) (hz : ∀ a ∈ l, a.length ≤ 140737488351232) (hT : Tab w) :
    Calls Tryd.prog 6 #[.string s, .slice A l.length c] w fun e w' => e = .returned (.bool true) ∧ Below w.heap.size w w' :=
  plain_full s.data.toList A c l w hP hlc (by rw [Array.length_toList]; exact hs) hm hz hT
end Go.Proofs.YtckmgcdiclkoeaaDoor
