
/- Contract of cowrieplain's SameTexts (true at equal lists). Conditions: sizes. -/
import Derived.Test.YtngllipfnbmpeaaMmT
import Derived.Deep.QuietTactic
import Derived.BigQuiet
namespace Go.Proofs.Ytngllipfnbmpeaa
open Go.RowKit
open Go.Lib (hid)

end Go.Proofs.Ytngllipfnbmpeaa
