
/- Contract of cowrieplain's SameTexts (true at equal lists). Conditions: sizes. -/
import Derived.Test.YtfeedppodffheaaDoorMmT
import Derived.Deep.QuietTactic
import Derived.BigQuiet
namespace Go.Proofs.YtfeedppodffheaaDoor
open Go.RowKit
open Go.Lib (hid)

end Go.Proofs.YtfeedppodffheaaDoor
