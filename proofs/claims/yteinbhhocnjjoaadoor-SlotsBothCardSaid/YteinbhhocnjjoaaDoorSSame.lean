/- The chapter's examples (alive) and the statements' number: the walks of their texts. -/
import Derived.Test.YteinbhhocnjjoaaDoorSCho
import Derived.Test.YteinbhhocnjjoaaDoorSLes
namespace Go.Proofs.YteinbhhocnjjoaaDoor.SSame
open Go.RowKit
open SamN
theorem Equal (a b : List UInt8) (w : World) (hm : a.length ≤ maxLen) :
    Calls Tryd.prog 30 #[.string ⟨a.toArray⟩, .string ⟨b.toArray⟩] w fun e w' => e = .returned (.bool (a == b)) ∧ Below w.heap.size w w' := by
  by_cases h : a = b
  · rw [show (a == b) = true from by rw [beq_iff_eq]; exact h]
    exact SBit.Equal_yes a b w h hm
  · rw [show (a == b) = false from by rw [beq_eq_false_iff_ne]; exact h]
    exact SBit.Equal_no a b w h hm
end Go.Proofs.YteinbhhocnjjoaaDoor.SSame
