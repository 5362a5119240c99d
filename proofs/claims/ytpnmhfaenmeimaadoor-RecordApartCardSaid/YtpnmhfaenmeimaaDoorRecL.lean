/- From what the tied card says of the library's variables to the walks' fact: the twenty powers of ten lie in their table. -/
import Derived.Test.YtpnmhfaenmeimaaDoorRows
import Derived.Test.YtpnmhfaenmeimaaDoorTie
import Derived.ProofKit
import Derived.LaidMore
import Derived.OpenShut
import Derived.Stop.LaidErr
import Derived.Lib.LaidTab
import Derived.Lib.ItoaNum
import Derived.WalkKit
namespace Go.Proofs.YtpnmhfaenmeimaaDoor.RecL
open Go.ChangeShapes Go.WideShapes Go.ChangeAt Go.RowKit
/-- The table of tens lies in its variable. -/
def Tens (W : World) : Prop := Lib.TabIs Tryd.prog W "internal/strconv.uint64pow10" .u64 Lib.pow10Tab
theorem gTab : Tryd.prog.globalNamed "internal/strconv.uint64pow10" = some 1 := by kernel_rfl
theorem tTab : (Tryd.prog.globals[1]?).map (·.type) = some 95 := by kernel_rfl
theorem datum : (Rows.laid_internal_strconv_uint64pow10 : DataW Unit) = Lib.tabData .u64 Lib.pow10Tab := by kernel_rfl
theorem c64 : Tryd.prog.cellsOf 87 = 1 := by kernel_rfl
theorem c20 : Tryd.prog.cellsOf 95 = 20 := by kernel_rfl
theorem plain : ([("math/bits.deBruijn32tab", Rows.laid_math_bits_deBruijn32tab), ("math/bits.deBruijn64tab", Rows.laid_math_bits_deBruijn64tab), ("internal/strconv.uint64pow10", Rows.laid_internal_strconv_uint64pow10)].all fun x : String × DataW Unit => x.2.handleName?.isNone) = true := by kernel_rfl
theorem of_laid {W : World} (h : laidMetH Tryd.prog [("math/bits.deBruijn32tab", Rows.laid_math_bits_deBruijn32tab), ("math/bits.deBruijn64tab", Rows.laid_math_bits_deBruijn64tab), ("internal/strconv.uint64pow10", Rows.laid_internal_strconv_uint64pow10)] W) : Tens W := by
  rw [MakeChecks.laidMetH_plain _ _ _ plain] at h
  have h2 := h.tail.tail
  rw [datum] at h2
  exact Lib.tabIs_of_head gTab tTab Tryd.underlying95 Tryd.underlying87 c64 c20 h2
/-- The heap that the program's own initialisers leave meets the condition. -/
theorem door_met (os : Os) (args : Array Value) : laidMetH Tryd.prog [("math/bits.deBruijn32tab", Rows.laid_math_bits_deBruijn32tab), ("math/bits.deBruijn64tab", Rows.laid_math_bits_deBruijn64tab), ("internal/strconv.uint64pow10", Rows.laid_internal_strconv_uint64pow10)] ((World.doorLaid Tryd.prog 400 os).forCall (fun _ _ => 0) ⟨#[], args, []⟩).memory :=
  laidMetH_of_parts3 (fuel := 8) (laidMet_of_run' 8 (by kernel_rfl) (by kernel_rfl)) (by kernel_rfl) (by kernel_rfl)
theorem Tens.step {W W' : World} (h : Tens W) (hb : Below W.heap.size W W') : Tens W' := by
  unfold Tens Lib.TabIs World.var? at h ⊢
  rw [gTab] at h ⊢
  simp only [Option.bind_some] at h ⊢
  by_cases hg : 1 < W.heap.size
  · rw [hb.block _ hg]
    exact h
  · rw [Array.getElem?_eq_none (by omega)] at h
    cases h
theorem Tens.drew {W : World} (h : Tens W) : Tens W.drew := h
end Go.Proofs.YtpnmhfaenmeimaaDoor.RecL
