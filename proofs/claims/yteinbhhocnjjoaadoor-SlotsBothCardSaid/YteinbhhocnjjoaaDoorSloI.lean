/- A text of two in an array, by its place. -/
import Derived.Test.YteinbhhocnjjoaaDoorSloP
namespace Go.Proofs.YteinbhhocnjjoaaDoor.SloI
open Go.RowKit
theorem part_str (W : World) (cs : Array Value) (i : Nat) (v : Value) (h : cs[i]? = some v) : (part 9 cs (i * 1)).run Tryd.prog W = .ok v W := by
  simp [part, isAgg, run_underlying Tryd.underlying9, h]
/-- One of two texts, by its place. -/
theorem index_0 (a b : ByteArray) (W : World) : (Instr.index 61 (.agg #[.string a, .string b]) (.int .i64 0)).run Tryd.prog W = .ok (.string a) W := by
  have h := part_str W #[.string a, .string b] 0 _ rfl
  have e : (Instr.index 61 (.agg #[.string a, .string b]) (.int .i64 0)).run Tryd.prog W = (part 9 #[.string a, .string b] (0 * 1)).run Tryd.prog W := by
    simp [Instr.index, asIntOf, run_underlying Tryd.underlying61, Sem.run_bind]
  exact e.trans h
theorem index_1 (a b : ByteArray) (W : World) : (Instr.index 61 (.agg #[.string a, .string b]) (.int .i64 1)).run Tryd.prog W = .ok (.string b) W := by
  have h := part_str W #[.string a, .string b] 1 _ rfl
  have e : (Instr.index 61 (.agg #[.string a, .string b]) (.int .i64 1)).run Tryd.prog W = (part 9 #[.string a, .string b] (1 * 1)).run Tryd.prog W := by
    simp [Instr.index, asIntOf, run_underlying Tryd.underlying61, Sem.run_bind]
  exact e.trans h
end Go.Proofs.YteinbhhocnjjoaaDoor.SloI
