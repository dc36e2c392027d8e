
/- Contract of cowrieplain's SameTexts (true at equal lists). Conditions: sizes. -/
import Derived.Test.YtnedjpopadkdeaaDoorMmT
import Derived.Deep.QuietTactic
import Derived.BigQuiet
namespace Go.Proofs.YtnedjpopadkdeaaDoor
open Go.RowKit
open Go.Lib (hid)

end Go.Proofs.YtnedjpopadkdeaaDoor
