/- GeoL SLaid SupL: one behind the other. -/
import Derived.Test.YtoilcieineejiaaGreatDoorLGeo
import Derived.Test.YtoilcieineejiaaGreatDoorTie
import Derived.ProofKit
import Derived.LaidMore
import Derived.OpenShut
import Derived.Deep.Fields
import Derived.Test.YtoilcieineejiaaGreatDoorLStep
import Derived.Test.YtoilcieineejiaaGreatDoorLSup
/- From what the tied card says of the program's two variables to the walks' fact: their cells hold the least and the most numbers. And a shape that comes in: its three numbers. -/
namespace Go.Proofs.YtoilcieineejiaaGreatDoor.GeoL
open Go.ChangeShapes Go.WideShapes Go.ChangeAt Go.RowKit
open GeoN GeoC
theorem gLeast : Tryz.prog.globalNamed "keepsake/geom.least" = some 0 := by kernel_rfl
theorem gMost : Tryz.prog.globalNamed "keepsake/geom.most" = some 1 := by kernel_rfl
theorem tLeast : (Tryz.prog.globals[0]?).map (·.type) = some 154 := by kernel_rfl
theorem tMost : (Tryz.prog.globals[1]?).map (·.type) = some 154 := by kernel_rfl
theorem cInt : Tryz.prog.cellsOf 3 = 1 := by kernel_rfl
theorem plain : ([("keepsake/geom.least", Rows.laid_keepsake_geom_least), ("keepsake/geom.most", Rows.laid_keepsake_geom_most)].all fun x : String × DataW Unit => x.2.handleName?.isNone) = true := by kernel_rfl
/-- A variable of three numbers. -/
theorem cells_of {W : World} {cs : Array Value} {f : Nat} {x y z : Int} {p : List MemPlace}
    (h : DataW.trod (fun _ => ()) Tryz.prog W 0 (fun _ => true) false f 154 cs.toList = some (.agg [.lit (.int .i64 x), .lit (.int .i64 y), .lit (.int .i64 z)], p)) :
    cs[0]? = some (.int .i64 x) ∧ cs[1]? = some (.int .i64 y) ∧ cs[2]? = some (.int .i64 z) := by
  obtain ⟨xs, m1, rfl, hx1, hlen, hn, hel⟩ := DataW.trod_array Tryz.underlying154 h
  simp only [Prod.mk.injEq, DataW.agg.injEq] at hx1
  have one : ∀ i (n : Int), i < 3 → ([.lit (.int .i64 x), .lit (.int .i64 y), .lit (.int .i64 z)] : List (DataW Unit))[i]? = some (.lit (.int .i64 n)) → cs[i]? = some (.int .i64 n) := by
    intro i n hi hd
    have h0 := hel i hi
    rw [cInt, Nat.mul_one] at h0
    have hxl : xs.length = 3 := by
      have := congrArg List.length hx1.1
      simpa using this.symm
    have hxi : xs[i]? = some (xs[i]'(by omega)) := List.getElem?_eq_getElem (by omega)
    rw [hxi] at h0
    obtain ⟨k, e1, e2, _⟩ := DataW.trod_int Tryz.underlying3 h0
    rw [hx1.1, List.getElem?_map, hxi, Option.map_some, e2] at hd
    have hk : k = n := by simpa using hd
    subst hk
    have h1 : ((cs.toList.drop i).take 1)[0]? = some (.int .i64 k) := by rw [e1]; rfl
    rw [List.getElem?_take, List.getElem?_drop] at h1
    simpa using h1
  exact ⟨one 0 x (by omega) rfl, one 1 y (by omega) rfl, one 2 z (by omega) rfl⟩
theorem of_laid {W : World} (h : laidMetH Tryz.prog [("keepsake/geom.least", Rows.laid_keepsake_geom_least), ("keepsake/geom.most", Rows.laid_keepsake_geom_most)] W) : Bnd W := by
  rw [MakeChecks.laidMetH_plain _ _ _ plain] at h
  obtain ⟨ps, ⟨g0, t0, cs0, f0, p0, q0, hg0, ht0, hv0, hd0, h1, _⟩, _⟩ := h
  obtain ⟨g1, t1, cs1, f1, p1, q1, hg1, ht1, hv1, hd1, _, _⟩ := h1
  obtain rfl := Option.some.inj (gLeast.symm.trans hg0)
  obtain rfl := Option.some.inj (tLeast.symm.trans ht0)
  obtain rfl := Option.some.inj (gMost.symm.trans hg1)
  obtain rfl := Option.some.inj (tMost.symm.trans ht1)
  obtain ⟨a0, a1, a2⟩ := cells_of hd0
  obtain ⟨b0, b1, b2⟩ := cells_of hd1
  intro i hi
  have hc := World.var?_cell hg0 hv0 i
  have hd := World.var?_cell hg1 hv1 i
  match i, hi with
  | 0, _ => exact ⟨hc.trans a0, hd.trans b0⟩
  | 1, _ => exact ⟨hc.trans a1, hd.trans b1⟩
  | 2, _ => exact ⟨hc.trans a2, hd.trans b2⟩
/-- The heap that the program's own initialisers leave meets the condition. -/
theorem door_met (os : Os) (args : Array Value) : laidMetH Tryz.prog [("keepsake/geom.least", Rows.laid_keepsake_geom_least), ("keepsake/geom.most", Rows.laid_keepsake_geom_most)] ((World.doorLaid Tryz.prog 400 os).forCall (fun _ _ => 0) ⟨#[], args, []⟩).memory :=
  laidMetH_of_parts3 (fuel := 8) (laidMet_of_run' 8 (by kernel_rfl) (by kernel_rfl)) (by kernel_rfl) (by kernel_rfl)
theorem cGeo : Tryz.prog.cellsOf 32 = 3 := by kernel_rfl
set_option maxRecDepth 100000 in
/-- A shape by value. -/
theorem open_geo {H : Type} {enc : TypeId × Value → H} {W : World} {r : Reach} {b0 : Nat} {v : Value} {d : DataW H} {p : List MemPlace} (hval : Value.okWide Tryz.prog W r b0 32 v)
    (h : DataW.Trod enc Tryz.prog W 0 (fun _ => true) true 32 v d p) :
    ∃ a b c : Int, v = .agg #[.int .i64 a, .int .i64 b, .int .i64 c] ∧ (Lit.int .i64 a).wf = true ∧ (Lit.int .i64 b).wf = true ∧ (Lit.int .i64 c).wf = true := by
  obtain ⟨cs, rfl, _⟩ := okWide_struct Tryz.underlying32 hval
  obtain ⟨fuel, hf⟩ := h
  obtain ⟨xs, n, _, _, hl, hxl, hel⟩ := DataW.trod_struct Tryz.underlying32 hf
  rw [cGeo] at hl
  have e0 : DataW.trod enc Tryz.prog W 0 (fun _ => true) true n 3 (((Value.agg cs).cells.toList.drop 0).take (Tryz.prog.cellsOf 3)) = xs[0]? := hel 0 _ rfl
  rw [cInt] at e0
  have e1 : DataW.trod enc Tryz.prog W 0 (fun _ => true) true n 3 (((Value.agg cs).cells.toList.drop 1).take (Tryz.prog.cellsOf 3)) = xs[1]? := hel 1 _ rfl
  rw [cInt] at e1
  have e2 : DataW.trod enc Tryz.prog W 0 (fun _ => true) true n 3 (((Value.agg cs).cells.toList.drop 2).take (Tryz.prog.cellsOf 3)) = xs[2]? := hel 2 _ rfl
  rw [cInt] at e2
  simp only [Value.cells] at hl e0 e1 e2
  obtain ⟨l, rfl⟩ : ∃ l : List Value, cs = l.toArray := ⟨cs.toList, by simp⟩
  match xs, hxl with
  | [y0, y1, y2], _ =>
    match l, hl with
    | [v0, v1, v2], _ =>
      obtain ⟨a, h0, _, w0⟩ := DataW.trod_int Tryz.underlying3 e0
      obtain ⟨b, h1, _, w1⟩ := DataW.trod_int Tryz.underlying3 e1
      obtain ⟨c, h2, _, w2⟩ := DataW.trod_int Tryz.underlying3 e2
      simp at h0 h1 h2
      subst h0 h1 h2
      exact ⟨a, b, c, rfl, w0, w1, w2⟩
end Go.Proofs.YtoilcieineejiaaGreatDoor.GeoL
/- From what the tied card says of the program's variable to the walks' fact: its 64 cells hold the rounds' numbers. -/
namespace Go.Proofs.YtoilcieineejiaaGreatDoor.SLaid
open Go.ChangeShapes Go.WideShapes Go.ChangeAt Go.RowKit
open STurn
theorem gRounds : Tryz.prog.globalNamed "keepsake/sha.rounds" = some 3 := by kernel_rfl
theorem tRounds : (Tryz.prog.globals[3]?).map (·.type) = some 191 := by kernel_rfl
theorem datum : (Rows.laid_keepsake_sha_rounds : DataW Unit) = .agg (kList.map fun n : Nat => .lit (.int .u32 (n : Int))) := by kernel_rfl
theorem c47 : Tryz.prog.cellsOf 146 = 1 := by kernel_rfl
theorem plain : ([("keepsake/sha.rounds", Rows.laid_keepsake_sha_rounds)].all fun x : String × DataW Unit => x.2.handleName?.isNone) = true := by kernel_rfl
theorem of_laid {W : World} (h : laidMetH Tryz.prog [("keepsake/sha.rounds", Rows.laid_keepsake_sha_rounds)] W) : Rds W := by
  rw [MakeChecks.laidMetH_plain _ _ _ plain] at h
  obtain ⟨ps, ⟨g0, t0, cs0, f0, p0, q0, hg0, ht0, hv0, hd0, _, _⟩, _⟩ := h
  obtain rfl := Option.some.inj (gRounds.symm.trans hg0)
  obtain rfl := Option.some.inj (tRounds.symm.trans ht0)
  rw [datum] at hd0
  obtain ⟨xs, m1, rfl, hx1, hlen, hn, hel⟩ := DataW.trod_array Tryz.underlying191 hd0
  simp only [Prod.mk.injEq, DataW.agg.injEq] at hx1
  intro i hi
  have h0 := hel i hi
  rw [c47, Nat.mul_one] at h0
  have hxi : xs[i]? = some (xs[i]'(by omega)) := List.getElem?_eq_getElem (by omega)
  rw [hxi] at h0
  obtain ⟨n, e1, e2, _⟩ := DataW.trod_int Tryz.underlying146 h0
  have hk : (kList.map fun n : Nat => (DataW.lit (.int .u32 (n : Int)) : DataW Unit))[i]? = (xs.map (·.1))[i]? := by rw [hx1.1]
  have hkl : i < kList.length := hi
  rw [List.getElem?_map, List.getElem?_map, hxi, List.getElem?_eq_getElem hkl, Option.map_some, Option.map_some, e2] at hk
  have hn2 : ((kList[i]'hkl : Nat) : Int) = n := by simpa using hk
  have hc := World.var?_cell hg0 hv0 i
  have hcs : cs0[i]? = some (.int .u32 n) := by
    have h1 : ((cs0.toList.drop i).take 1)[0]? = some (.int .u32 n) := by rw [e1]; rfl
    rw [List.getElem?_take, List.getElem?_drop] at h1
    simpa using h1
  rw [show kList.getD i 0 = kList[i]'hkl from by simp [List.getD, hkl], hn2]
  exact hc.trans hcs
/-- The heap that the program's own initialisers leave meets the condition. -/
theorem door_met (os : Os) (args : Array Value) : laidMetH Tryz.prog [("keepsake/sha.rounds", Rows.laid_keepsake_sha_rounds)] ((World.doorLaid Tryz.prog 400 os).forCall (fun _ _ => 0) ⟨#[], args, []⟩).memory :=
  laidMetH_of_parts3 (fuel := 8) (laidMet_of_run' 8 (by kernel_rfl) (by kernel_rfl)) (by kernel_rfl) (by kernel_rfl)
end Go.Proofs.YtoilcieineejiaaGreatDoor.SLaid
/- From what the tied card says of the program's three variables to the walks' fact: their cells hold the least and the most numbers, and the rounds' numbers. And a superblock that comes in: its seven numbers. -/
namespace Go.Proofs.YtoilcieineejiaaGreatDoor.SupL
open Go.ChangeShapes Go.WideShapes Go.ChangeAt Go.RowKit
open GeoN GeoC GeoL SupP
theorem plain : ([("keepsake/geom.least", Rows.laid_keepsake_geom_least), ("keepsake/geom.most", Rows.laid_keepsake_geom_most), ("keepsake/sha.rounds", Rows.laid_keepsake_sha_rounds)].all fun x : String × DataW Unit => x.2.handleName?.isNone) = true := by kernel_rfl
theorem of_laid {W : World} (h : laidMetH Tryz.prog [("keepsake/geom.least", Rows.laid_keepsake_geom_least), ("keepsake/geom.most", Rows.laid_keepsake_geom_most), ("keepsake/sha.rounds", Rows.laid_keepsake_sha_rounds)] W) : Gl W := by
  rw [MakeChecks.laidMetH_plain _ _ _ plain] at h
  obtain ⟨ps, ⟨g0, t0, cs0, f0, p0, q0, hg0, ht0, hv0, hd0, h1, _⟩, _⟩ := h
  obtain ⟨g1, t1, cs1, f1, p1, q1, hg1, ht1, hv1, hd1, h2, _⟩ := h1
  obtain ⟨g2, t2, cs2, f2, p2, q2, hg2, ht2, hv2, hd2, _, _⟩ := h2
  obtain rfl := Option.some.inj (gLeast.symm.trans hg0)
  obtain rfl := Option.some.inj (tLeast.symm.trans ht0)
  obtain rfl := Option.some.inj (gMost.symm.trans hg1)
  obtain rfl := Option.some.inj (tMost.symm.trans ht1)
  obtain rfl := Option.some.inj (SLaid.gRounds.symm.trans hg2)
  obtain rfl := Option.some.inj (SLaid.tRounds.symm.trans ht2)
  obtain ⟨a0, a1, a2⟩ := cells_of hd0
  obtain ⟨b0, b1, b2⟩ := cells_of hd1
  refine ⟨?_, ?_⟩
  · intro i hi
    have hc := World.var?_cell hg0 hv0 i
    have hd := World.var?_cell hg1 hv1 i
    match i, hi with
    | 0, _ => exact ⟨hc.trans a0, hd.trans b0⟩
    | 1, _ => exact ⟨hc.trans a1, hd.trans b1⟩
    | 2, _ => exact ⟨hc.trans a2, hd.trans b2⟩
  · rw [SLaid.datum] at hd2
    obtain ⟨xs, m1, rfl, hx1, hlen, hn, hel⟩ := DataW.trod_array Tryz.underlying191 hd2
    simp only [Prod.mk.injEq, DataW.agg.injEq] at hx1
    intro i hi
    have h0 := hel i hi
    rw [SLaid.c47, Nat.mul_one] at h0
    have hxi : xs[i]? = some (xs[i]'(by omega)) := List.getElem?_eq_getElem (by omega)
    rw [hxi] at h0
    obtain ⟨n, e1, e2, _⟩ := DataW.trod_int Tryz.underlying146 h0
    have hk : (kList.map fun n : Nat => (DataW.lit (.int .u32 (n : Int)) : DataW Unit))[i]? = (xs.map (·.1))[i]? := by rw [hx1.1]
    have hkl : i < kList.length := hi
    rw [List.getElem?_map, List.getElem?_map, hxi, List.getElem?_eq_getElem hkl, Option.map_some, Option.map_some, e2] at hk
    have hn2 : ((kList[i]'hkl : Nat) : Int) = n := by simpa using hk
    have hc := World.var?_cell hg2 hv2 i
    have hcs : cs2[i]? = some (.int .u32 n) := by
      have h1 : ((cs2.toList.drop i).take 1)[0]? = some (.int .u32 n) := by rw [e1]; rfl
      rw [List.getElem?_take, List.getElem?_drop] at h1
      simpa using h1
    rw [show kList.getD i 0 = kList[i]'hkl from by simp [List.getD, hkl], hn2]
    exact hc.trans hcs
/-- The heap that the program's own initialisers leave meets the condition. -/
theorem door_met (os : Os) (args : Array Value) : laidMetH Tryz.prog [("keepsake/geom.least", Rows.laid_keepsake_geom_least), ("keepsake/geom.most", Rows.laid_keepsake_geom_most), ("keepsake/sha.rounds", Rows.laid_keepsake_sha_rounds)] ((World.doorLaid Tryz.prog 400 os).forCall (fun _ _ => 0) ⟨#[], args, []⟩).memory :=
  laidMetH_of_parts3 (fuel := 8) (laidMet_of_run' 8 (by kernel_rfl) (by kernel_rfl)) (by kernel_rfl) (by kernel_rfl)
theorem cSup : Tryz.prog.cellsOf 53 = 7 := by kernel_rfl
set_option maxRecDepth 100000 in
/-- A superblock by value. -/
theorem open_sup {H : Type} {enc : TypeId × Value → H} {W : World} {r : Reach} {b0 : Nat} {v : Value} {d : DataW H} {p : List MemPlace} (hval : Value.okWide Tryz.prog W r b0 53 v)
    (h : DataW.Trod enc Tryz.prog W 0 (fun _ => true) true 53 v d p) :
    ∃ g t e k b l f : Int, v = .agg #[.int .i64 g, .int .i64 t, .int .i64 e, .int .i64 k, .int .i64 b, .int .i64 l, .int .i64 f] := by
  obtain ⟨cs, rfl, _⟩ := okWide_struct Tryz.underlying53 hval
  obtain ⟨fuel, hf⟩ := h
  obtain ⟨xs, n, _, _, hl, hxl, hel⟩ := DataW.trod_struct Tryz.underlying53 hf
  rw [cSup] at hl
  have e0 : DataW.trod enc Tryz.prog W 0 (fun _ => true) true n 3 (((Value.agg cs).cells.toList.drop 0).take (Tryz.prog.cellsOf 3)) = xs[0]? := hel 0 _ rfl
  have e1 : DataW.trod enc Tryz.prog W 0 (fun _ => true) true n 3 (((Value.agg cs).cells.toList.drop 1).take (Tryz.prog.cellsOf 3)) = xs[1]? := hel 1 _ rfl
  have e2 : DataW.trod enc Tryz.prog W 0 (fun _ => true) true n 3 (((Value.agg cs).cells.toList.drop 2).take (Tryz.prog.cellsOf 3)) = xs[2]? := hel 2 _ rfl
  have e3 : DataW.trod enc Tryz.prog W 0 (fun _ => true) true n 3 (((Value.agg cs).cells.toList.drop 3).take (Tryz.prog.cellsOf 3)) = xs[3]? := hel 3 _ rfl
  have e4 : DataW.trod enc Tryz.prog W 0 (fun _ => true) true n 32 (((Value.agg cs).cells.toList.drop 4).take (Tryz.prog.cellsOf 32)) = xs[4]? := hel 4 _ rfl
  rw [cInt] at e0 e1 e2 e3
  rw [cGeo] at e4
  simp only [Value.cells] at hl e0 e1 e2 e3 e4
  obtain ⟨l, rfl⟩ : ∃ l : List Value, cs = l.toArray := ⟨cs.toList, by simp⟩
  match xs, hxl with
  | [y0, y1, y2, y3, y4], _ =>
    match l, hl with
    | [v0, v1, v2, v3, v4, v5, v6], _ =>
      obtain ⟨g, h0, _, _⟩ := DataW.trod_int Tryz.underlying3 e0
      obtain ⟨t, h1, _, _⟩ := DataW.trod_int Tryz.underlying3 e1
      obtain ⟨e, h2, _, _⟩ := DataW.trod_int Tryz.underlying3 e2
      obtain ⟨k, h3, _, _⟩ := DataW.trod_int Tryz.underlying3 e3
      obtain ⟨zs, m, _, _, _, hzl, hzel⟩ := DataW.trod_struct Tryz.underlying32 e4
      match zs, hzl with
      | [z0, z1, z2], _ =>
        have d0 : DataW.trod enc Tryz.prog W 0 (fun _ => true) true m 3 ((((([v0, v1, v2, v3, v4, v5, v6] : List Value).drop 4).take 3).drop 0).take (Tryz.prog.cellsOf 3)) = [z0, z1, z2][0]? := hzel 0 _ rfl
        rw [cInt] at d0
        have d1 : DataW.trod enc Tryz.prog W 0 (fun _ => true) true m 3 ((((([v0, v1, v2, v3, v4, v5, v6] : List Value).drop 4).take 3).drop 1).take (Tryz.prog.cellsOf 3)) = [z0, z1, z2][1]? := hzel 1 _ rfl
        rw [cInt] at d1
        have d2 : DataW.trod enc Tryz.prog W 0 (fun _ => true) true m 3 ((((([v0, v1, v2, v3, v4, v5, v6] : List Value).drop 4).take 3).drop 2).take (Tryz.prog.cellsOf 3)) = [z0, z1, z2][2]? := hzel 2 _ rfl
        rw [cInt] at d2
        obtain ⟨b, h4, _, _⟩ := DataW.trod_int Tryz.underlying3 d0
        obtain ⟨l, h5, _, _⟩ := DataW.trod_int Tryz.underlying3 d1
        obtain ⟨f, h6, _, _⟩ := DataW.trod_int Tryz.underlying3 d2
        simp at h0 h1 h2 h3
        simp at h4 h5 h6
        subst h0 h1 h2 h3 h4 h5 h6
        exact ⟨g, t, e, k, b, l, f, rfl⟩
end Go.Proofs.YtoilcieineejiaaGreatDoor.SupL
