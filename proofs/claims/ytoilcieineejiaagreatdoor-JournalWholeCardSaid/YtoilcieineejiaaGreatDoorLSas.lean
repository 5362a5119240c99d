/- SLes SSame: one behind the other. -/
import Derived.Test.YtoilcieineejiaaGreatDoorLSam
import Derived.StillTailTactics
import Derived.Deep.RegionWith
/- What same.Less answers, at any texts: the walks of its closure and of its text. -/
namespace Go.Proofs.YtoilcieineejiaaGreatDoor.SLes
open Go.RowKit
open SamN
/-- What is borrowed of a byte less a byte less what was borrowed. -/
theorem borrow (x y b : Int) (hx : 0 ≤ x ∧ x < 256) (hy : 0 ≤ y ∧ y < 256) (hb : 0 ≤ b ∧ b ≤ 1) : bits .and .i64 ((x - y - b) / 256) 1 = if x < y + b then 1 else 0 := by
  by_cases h : x < y + b
  · rw [if_pos h, show (x - y - b) / 256 = -1 from by omega]
    rfl
  · rw [if_neg h, show (x - y - b) / 256 = 0 from by omega]
    rfl
end Go.Proofs.YtoilcieineejiaaGreatDoor.SLes
/- The chapter's examples (alive) and the statements' number: the walks of their texts. -/
namespace Go.Proofs.YtoilcieineejiaaGreatDoor.SSame
open Go.RowKit
open SamN
theorem Equal (a b : List UInt8) (w : World) (hm : a.length ≤ maxLen) :
    Calls Tryz.prog 146 #[.string ⟨a.toArray⟩, .string ⟨b.toArray⟩] w fun e w' => e = .returned (.bool (a == b)) ∧ Below w.heap.size w w' := by
  by_cases h : a = b
  · rw [show (a == b) = true from by rw [beq_iff_eq]; exact h]
    exact SBit.Equal_yes a b w h hm
  · rw [show (a == b) = false from by rw [beq_eq_false_iff_ne]; exact h]
    exact SBit.Equal_no a b w h hm
end Go.Proofs.YtoilcieineejiaaGreatDoor.SSame
