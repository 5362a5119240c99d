/- From what the tied card says of the program's variable to the walks' fact: its 64 cells hold the rounds' numbers. -/
import Derived.Test.YtkidehngleglnaaGreatDoorLStep
import Derived.Test.YtkidehngleglnaaGreatDoorTie
import Derived.ProofKit
import Derived.LaidMore
import Derived.OpenShut
namespace Go.Proofs.YtkidehngleglnaaGreatDoor.SLaid
open Go.ChangeShapes Go.WideShapes Go.ChangeAt Go.RowKit
open STurn
theorem gRounds : Tryz.prog.globalNamed "keepsake/sha.rounds" = some 0 := by kernel_rfl
theorem tRounds : (Tryz.prog.globals[0]?).map (·.type) = some 147 := by kernel_rfl
theorem datum : (Rows.laid_keepsake_sha_rounds : DataW Unit) = .agg (kList.map fun n : Nat => .lit (.int .u32 (n : Int))) := by kernel_rfl
theorem c47 : Tryz.prog.cellsOf 128 = 1 := by kernel_rfl
theorem plain : ([("keepsake/sha.rounds", Rows.laid_keepsake_sha_rounds)].all fun x : String × DataW Unit => x.2.handleName?.isNone) = true := by kernel_rfl
theorem of_laid {W : World} (h : laidMetH Tryz.prog [("keepsake/sha.rounds", Rows.laid_keepsake_sha_rounds)] W) : Rds W := by
  rw [MakeChecks.laidMetH_plain _ _ _ plain] at h
  obtain ⟨ps, ⟨g0, t0, cs0, f0, p0, q0, hg0, ht0, hv0, hd0, _, _⟩, _⟩ := h
  obtain rfl := Option.some.inj (gRounds.symm.trans hg0)
  obtain rfl := Option.some.inj (tRounds.symm.trans ht0)
  rw [datum] at hd0
  obtain ⟨xs, m1, rfl, hx1, hlen, hn, hel⟩ := DataW.trod_array Tryz.underlying147 hd0
  simp only [Prod.mk.injEq, DataW.agg.injEq] at hx1
  intro i hi
  have h0 := hel i hi
  rw [c47, Nat.mul_one] at h0
  have hxi : xs[i]? = some (xs[i]'(by omega)) := List.getElem?_eq_getElem (by omega)
  rw [hxi] at h0
  obtain ⟨n, e1, e2, _⟩ := DataW.trod_int Tryz.underlying128 h0
  have hk : (kList.map fun n : Nat => (DataW.lit (.int .u32 (n : Int)) : DataW Unit))[i]? = (xs.map (·.1))[i]? := by rw [hx1.1]
  have hkl : i < kList.length := hi
  rw [List.getElem?_map, List.getElem?_map, hxi, List.getElem?_eq_getElem hkl, Option.map_some, Option.map_some, e2] at hk
  have hn2 : ((kList[i]'hkl : Nat) : Int) = n := by simpa using hk
  have hc := World.var?_cell hg0 hv0 i
  have hcs : cs0[i]? = some (.int .u32 n) := by
    have h1 : ((cs0.toList.drop i).take 1)[0]? = some (.int .u32 n) := by rw [e1]; rfl
    rw [List.getElem?_take, List.getElem?_drop] at h1
    simpa using h1
  rw [show kList.getD i 0 = kList[i]'hkl from by simp [List.getD, hkl], hn2]
  exact hc.trans hcs
/-- The heap that the program's own initialisers leave meets the condition. -/
theorem door_met (os : Os) (args : Array Value) : laidMetH Tryz.prog [("keepsake/sha.rounds", Rows.laid_keepsake_sha_rounds)] ((World.doorLaid Tryz.prog 400 os).forCall (fun _ _ => 0) ⟨#[], args, []⟩).memory :=
  laidMetH_of_parts3 (fuel := 8) (laidMet_of_run' 8 (by kernel_rfl) (by kernel_rfl)) (by kernel_rfl) (by kernel_rfl)
end Go.Proofs.YtkidehngleglnaaGreatDoor.SLaid
