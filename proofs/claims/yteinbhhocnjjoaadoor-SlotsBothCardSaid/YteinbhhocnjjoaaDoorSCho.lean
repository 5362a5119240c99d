/- What same.Choose answers, at any number and any texts of at most 2^48 bytes: the walk of its text. -/
import Derived.Test.YteinbhhocnjjoaaDoorSBit
namespace Go.Proofs.YteinbhhocnjjoaaDoor.SCho
open Go.RowKit
open SamN SBit
/-- What Choose answers. -/
def chosen (n : Int) (a b : List UInt8) : List UInt8 := if a.length = b.length then (if n % 2 = 1 then a else b) else []
theorem and1 (n : Int) : bits .and .i64 n 1 = n % 2 := by
  show IntKind.i64.wrap (((BitVec.ofInt 64 n &&& BitVec.ofInt 64 1).toNat : Nat) : Int) = n % 2
  have e : (BitVec.ofInt 64 n &&& BitVec.ofInt 64 1).toNat = (n % 2).toNat := by
    rw [BitVec.toNat_and, show (BitVec.ofInt 64 1).toNat = 1 from rfl, nat_mask1, BitVec.toNat_ofInt]
    omega
  rw [e]
  have : 0 ≤ n % 2 ∧ n % 2 < 2 := by omega
  rw [IntWalk.i64_in _ (by omega)]
  omega
end Go.Proofs.YteinbhhocnjjoaaDoor.SCho
