/- What aes.Sub and Back answer: the walks of their texts. -/
import Derived.Test.YtjlepjnfacmieaaATab
namespace Go.Proofs.Ytjlepjnfacmieaa.ASub
open Go.RowKit
open AesM ADbl ATab
theorem und256 : Try.prog.underlying 67 = some (.array 256 5) := by kernel_rfl
/-- A byte of a table by value. -/
theorem index256 (cs : Array Value) (b : Nat) (v : Value) (hb : b < 256) (h : cs[b]? = some v) (W : World) : (Instr.index 67 (.agg cs) (.int .u8 b)).run Try.prog W = .ok v W := by
  simp [Instr.index, asIntOf, Sem.run_bind, run_underlying und256, hb, part, h]
theorem row_cell (t : List UInt8) (h : t.length = 256) (b : UInt8) : (bytesRow t)[b.toNat]? = some (.int .u8 (t.getD b.toNat 0).toNat) := byte_at t _ (by rw [h]; exact b.toNat_lt)
theorem tab_of {W : World} {g : Nat} {t : List UInt8} {ty : TypeId} {f : Nat × Nat} (ht : t.length = 256) (h : W.heap[g]? = some (.cells (bytesRow t) ty f)) : TabAt W g 0 t := fun i hi => by
  rw [Nat.zero_add]; exact blk_cell h (byte_at t i (by omega))
end Go.Proofs.Ytjlepjnfacmieaa.ASub
