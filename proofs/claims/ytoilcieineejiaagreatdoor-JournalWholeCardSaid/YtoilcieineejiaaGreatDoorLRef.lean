/- RNou RPut RGet: one behind the other. -/
import Derived.Test.YtoilcieineejiaaGreatDoorLOct
import Derived.Test.YtoilcieineejiaaGreatDoorRows
import Derived.Test.YtoilcieineejiaaGreatDoorLMem
/- What keepsakeref01.Noughts answers: the walk of its text. -/
namespace Go.Proofs.YtoilcieineejiaaGreatDoor.RNou
open Go.RowKit
theorem info5 : (Tryz.prog.info? 5).map (fun i => (i.zero, i.size, i.bytes)) = some (some (.int .u8 0), 1, 1) := by kernel_rfl
theorem none_ (n : Int) (w : World) (h : n < 1) :
    Calls Tryz.prog 58 #[.int .i64 n] w fun e w' => e = .returned (.string ⟨#[]⟩) ∧ w = w' := by
  go_enter Tryz.func58, Tryz.ntmps58
  go_wp2
  go_ret
  exact ⟨rfl, rfl⟩
theorem some_ (k : Nat) (w : World) (h : ¬ (k : Int) < 1) (hk : k ≤ 281474976710656) :
    Calls Tryz.prog 58 #[.int .i64 k] w fun e w' => e = .returned (.string ⟨(List.replicate k 0).toArray⟩) ∧ Below w.heap.size w w' := by
  obtain ⟨i0, hi, hz0, hz1, hz2⟩ := info_parts info5
  have hmk : ∀ W : World, (Instr.makeSlice 114 (.int .i64 (k : Int)) (.int .i64 (k : Int))).run Tryz.prog W = .ok (.slice (some ⟨W.heap.size, 0, none⟩) k k) (W.alloc (.cells (bytesRow (List.replicate k 0)) 5)) := by
    intro W
    have := run_make (P := Tryz.prog) W 114 5 i0 (.int .u8 0) Tryz.underlying114 hi hz0 .i64 .i64 k k (by omega) (by omega) (by rw [hz2]; omega) (by omega)
    simp only [hz1, Value.cells, Int.toNat_natCast, Nat.mul_one, made_bytes] at this
    exact this
  have hcv : ∀ W : World, (convert 114 9 (.slice (some ⟨W.heap.size, 0, none⟩) k k)).run Tryz.prog (W.alloc (.cells (bytesRow (List.replicate k 0)) 5)) =
      .ok (.string ⟨(List.replicate k 0).toArray⟩) (W.alloc (.cells (bytesRow (List.replicate k 0)) 5)) := by
    intro W
    exact conv_row Tryz.underlying114 Tryz.underlying5 Tryz.underlying9 (m := []) (by rw [heap_alloc_new, List.append_nil]) (by simp)
  clear hi hz0 hz1 hz2
  generalize bytesRow (List.replicate k 0) = cs at *
  have hb : Below w.heap.size w (w.alloc (.cells cs 5)) := (Below.refl _ _).alloc (Nat.le_refl _) _
  generalize List.replicate k 0 = l at *
  go_enter Tryz.func58, Tryz.ntmps58
  go_wp2
  go_ret
  exact ⟨rfl, hb⟩
theorem noughts (k : Nat) (w : World) (hk : k ≤ 281474976710656) :
    Calls Tryz.prog 58 #[.int .i64 k] w fun e w' => e = .returned (.string ⟨(List.replicate k 0).toArray⟩) ∧ Below w.heap.size w w' := by
  by_cases h : (k : Int) < 1
  · obtain rfl : k = 0 := by omega
    exact (none_ _ w h).mono fun _ _ ⟨h1, h2⟩ => ⟨h1, h2 ▸ Below.refl _ _⟩
  · exact some_ k w h hk
end Go.Proofs.YtoilcieineejiaaGreatDoor.RNou
/- What keepsakeref01.Put answers: the walk of its text. -/
namespace Go.Proofs.YtoilcieineejiaaGreatDoor.RPut
open Go.RowKit
theorem info5 : (Tryz.prog.info? 5).map (fun i => (i.zero, i.size, i.bytes)) = some (some (.int .u8 0), 1, 1) := by kernel_rfl
end Go.Proofs.YtoilcieineejiaaGreatDoor.RPut
/- What keepsakeref01.Get answers: the walk of its text. -/
namespace Go.Proofs.YtoilcieineejiaaGreatDoor.RGet
open Go.RowKit
end Go.Proofs.YtoilcieineejiaaGreatDoor.RGet
