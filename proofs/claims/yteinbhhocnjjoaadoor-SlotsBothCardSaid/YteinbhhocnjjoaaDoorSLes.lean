/- What same.Less answers, at any texts: the walks of its closure and of its text. -/
import Derived.Test.YteinbhhocnjjoaaDoorSClo
import Derived.StillTailTactics
import Derived.Deep.RegionWith
namespace Go.Proofs.YteinbhhocnjjoaaDoor.SLes
open Go.RowKit
open SamN
/-- What is borrowed of a byte less a byte less what was borrowed. -/
theorem borrow (x y b : Int) (hx : 0 ≤ x ∧ x < 256) (hy : 0 ≤ y ∧ y < 256) (hb : 0 ≤ b ∧ b ≤ 1) : bits .and .i64 ((x - y - b) / 256) 1 = if x < y + b then 1 else 0 := by
  by_cases h : x < y + b
  · rw [if_pos h, show (x - y - b) / 256 = -1 from by omega]
    rfl
  · rw [if_neg h, show (x - y - b) / 256 = 0 from by omega]
    rfl
end Go.Proofs.YteinbhhocnjjoaaDoor.SLes
