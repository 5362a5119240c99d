/- The document's trees of hashes: Whole, Half, Long; two rows of texts held against each other: the walks of their texts. No conditions but those that each lemma names. -/
import Derived.Test.YtcadfpaihfaabaaDoorMerP
import Derived.LoopN
namespace Go.Proofs.YtcadfpaihfaabaaDoor.MerH
open Go.RowKit SSum MerQ MerN MerM MerC MerP
theorem longN_le {n i : Nat} (hi : i < n) (hn : n ≤ 1048576) : longN n i ≤ 20 := long_most hi (show n ≤ 2 ^ 20 by simpa using hn)
end Go.Proofs.YtcadfpaihfaabaaDoor.MerH
