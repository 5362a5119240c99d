/- What sha's 'Step' answers: the walk of its text. -/
import Derived.Test.YtfjlpialblllgaaDoorSTurn
import Derived.Deep.MidRow
import Derived.Deep.RegionWith
import Derived.Laws.Cover3
namespace Go.Proofs.YtfjlpialblllgaaDoor.SStep
open Go.RowKit
open SSpr SByt STurn
/-- What Step answers: the state's bytes and the error's number. -/
def step (s b : List UInt8) : List UInt8 × Int := if s.length = 32 ∧ b.length = 64 then ((turnSt (stOf s) b).bytes, 0) else ([], 2)
/-- The numbers behind 'j' rounds. -/
def srow (s : List UInt8) (j : Nat) : List Nat := (List.range j).map (nth4 s) ++ List.replicate (8 - j) 0
theorem srow_len (s : List UInt8) (j : Nat) (h : j ≤ 8) : (srow s j).length = 8 := by simp [srow]; omega
theorem srow_next (s : List UInt8) (j : Nat) (h : j < 8) : (srow s j).set j (nth4 s j) = srow s (j + 1) := by
  unfold srow
  rw [List.set_append_right _ _ (by simp), show 8 - j = (8 - (j + 1)) + 1 from by omega, List.replicate_succ]
  simp [List.range_succ]
theorem cells8 {w : World} {g : Nat} {t : TypeId} {s : St} (h : w.heap[g]? = some (.cells (stRow s) t (0, 0))) :
    w.cell? ⟨g, 0, none⟩ = some (.int .u32 s.a) ∧ w.cell? ⟨g, 1, none⟩ = some (.int .u32 s.b) ∧ w.cell? ⟨g, 2, none⟩ = some (.int .u32 s.c) ∧ w.cell? ⟨g, 3, none⟩ = some (.int .u32 s.d) ∧ w.cell? ⟨g, 4, none⟩ = some (.int .u32 s.e) ∧ w.cell? ⟨g, 5, none⟩ = some (.int .u32 s.f) ∧ w.cell? ⟨g, 6, none⟩ = some (.int .u32 s.g) ∧ w.cell? ⟨g, 7, none⟩ = some (.int .u32 s.h) :=
  ⟨blk_cell h rfl, blk_cell h rfl, blk_cell h rfl, blk_cell h rfl, blk_cell h rfl, blk_cell h rfl, blk_cell h rfl, blk_cell h rfl⟩
end Go.Proofs.YtfjlpialblllgaaDoor.SStep
