/- What keepsakeref01.Get answers: the walk of its text. -/
import Derived.Test.YtmghkacbphdakaaDoorOctNum
import Derived.Test.YtmghkacbphdakaaDoorRows
import Derived.Test.YtmghkacbphdakaaDoorMem
namespace Go.Proofs.YtmghkacbphdakaaDoor.RGet
open Go.RowKit
end Go.Proofs.YtmghkacbphdakaaDoor.RGet
