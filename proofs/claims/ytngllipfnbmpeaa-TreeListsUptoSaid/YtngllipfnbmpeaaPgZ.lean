/- The contracts of tree's functions, together. -/
import Derived.Test.YtngllipfnbmpeaaPgU
namespace Go.Proofs.Ytngllipfnbmpeaa
end Go.Proofs.Ytngllipfnbmpeaa
