/- RPut RGet RNou: one behind the other. -/
import Derived.Test.YtcadfpaihfaabaaDoorLOct
import Derived.Test.YtcadfpaihfaabaaDoorRows
import Derived.Test.YtcadfpaihfaabaaDoorMem
/- What keepsakeref01.Put answers: the walk of its text. -/
namespace Go.Proofs.YtcadfpaihfaabaaDoor.RPut
open Go.RowKit
theorem info5 : (Tryd.prog.info? 5).map (fun i => (i.zero, i.size, i.bytes)) = some (some (.int .u8 0), 1, 1) := by kernel_rfl
end Go.Proofs.YtcadfpaihfaabaaDoor.RPut
/- What keepsakeref01.Get answers: the walk of its text. -/
namespace Go.Proofs.YtcadfpaihfaabaaDoor.RGet
open Go.RowKit
end Go.Proofs.YtcadfpaihfaabaaDoor.RGet
/- What keepsakeref01.Noughts answers: the walk of its text. -/
namespace Go.Proofs.YtcadfpaihfaabaaDoor.RNou
open Go.RowKit
theorem info5 : (Tryd.prog.info? 5).map (fun i => (i.zero, i.size, i.bytes)) = some (some (.int .u8 0), 1, 1) := by kernel_rfl
end Go.Proofs.YtcadfpaihfaabaaDoor.RNou
