/- What the state's unmixed, and the cipher's forth and back, answer: the walks of their texts. The condition: the cipher's words and stand-ins lie in memory. -/
import Derived.Test.YtjlepjnfacmieaaAMix
import Derived.Test.YtjlepjnfacmieaaASub
namespace Go.Proofs.Ytjlepjnfacmieaa.AForth
open Go.RowKit
open AesM ADbl ATab AFill AOps AMix
/-- The cells of a state. -/
def RowOk (r : Array Value) : Prop := (Try.prog.info? 76).map (·.size) = some r.size ∧ r.size = 16 ∧ r.all (·.oneCell') = true
theorem rowOk (l : List UInt8) (h : l.length = 16) : RowOk (bytesRow l) := by
  have hs : (bytesRow l).size = 16 := by rw [bytesRow_size, h]
  exact ⟨by rw [hs]; exact info16, hs, bytes_one l⟩
theorem World_lt {W : World} {g : Nat} {o : Obj} (h : W.heap[g]? = some o) : g < W.heap.size := (Array.getElem?_eq_some_iff.1 h).1
def mixN (s : List UInt8) : Nat → List UInt8
  | 0 => s
  | j + 1 => mixL (mixN s j)
theorem mixN_length (s : List UInt8) (h : s.length = 16) (j : Nat) : (mixN s j).length = 16 := by
  induction j with
  | zero => exact h
  | succ j ih => exact mixL_length _ ih
end Go.Proofs.Ytjlepjnfacmieaa.AForth
