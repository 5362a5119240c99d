/- What keepsakeref01.Put answers: the walk of its text. -/
import Derived.Test.YtmghkacbphdakaaDoorOctNum
import Derived.Test.YtmghkacbphdakaaDoorRows
import Derived.Test.YtmghkacbphdakaaDoorMem
namespace Go.Proofs.YtmghkacbphdakaaDoor.RPut
open Go.RowKit
theorem info5 : (Tryd.prog.info? 5).map (fun i => (i.zero, i.size, i.bytes)) = some (some (.int .u8 0), 1, 1) := by kernel_rfl
end Go.Proofs.YtmghkacbphdakaaDoor.RPut
