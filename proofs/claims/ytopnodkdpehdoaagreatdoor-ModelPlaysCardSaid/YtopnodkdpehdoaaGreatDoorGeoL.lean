/- From what the tied card says of the program's two variables to the walks' fact: their cells hold the least and the most numbers. And a shape that comes in: its three numbers. -/
import Derived.Test.YtopnodkdpehdoaaGreatDoorLGeo
import Derived.Test.YtopnodkdpehdoaaGreatDoorTie
import Derived.ProofKit
import Derived.LaidMore
import Derived.OpenShut
import Derived.Deep.Fields
namespace Go.Proofs.YtopnodkdpehdoaaGreatDoor.GeoL
open Go.ChangeShapes Go.WideShapes Go.ChangeAt Go.RowKit
open GeoN GeoC
theorem gLeast : Tryz.prog.globalNamed "keepsake/geom.least" = some 0 := by kernel_rfl
theorem gMost : Tryz.prog.globalNamed "keepsake/geom.most" = some 1 := by kernel_rfl
theorem tLeast : (Tryz.prog.globals[0]?).map (·.type) = some 123 := by kernel_rfl
theorem tMost : (Tryz.prog.globals[1]?).map (·.type) = some 123 := by kernel_rfl
theorem cInt : Tryz.prog.cellsOf 3 = 1 := by kernel_rfl
theorem plain : ([("keepsake/geom.least", Rows.laid_keepsake_geom_least), ("keepsake/geom.most", Rows.laid_keepsake_geom_most)].all fun x : String × DataW Unit => x.2.handleName?.isNone) = true := by kernel_rfl
/-- A variable of three numbers. -/
theorem cells_of {W : World} {cs : Array Value} {f : Nat} {x y z : Int} {p : List MemPlace}
    (h : DataW.trod (fun _ => ()) Tryz.prog W 0 (fun _ => true) false f 123 cs.toList = some (.agg [.lit (.int .i64 x), .lit (.int .i64 y), .lit (.int .i64 z)], p)) :
    cs[0]? = some (.int .i64 x) ∧ cs[1]? = some (.int .i64 y) ∧ cs[2]? = some (.int .i64 z) := by
  obtain ⟨xs, m1, rfl, hx1, hlen, hn, hel⟩ := DataW.trod_array Tryz.underlying123 h
  simp only [Prod.mk.injEq, DataW.agg.injEq] at hx1
  have one : ∀ i (n : Int), i < 3 → ([.lit (.int .i64 x), .lit (.int .i64 y), .lit (.int .i64 z)] : List (DataW Unit))[i]? = some (.lit (.int .i64 n)) → cs[i]? = some (.int .i64 n) := by
    intro i n hi hd
    have h0 := hel i hi
    rw [cInt, Nat.mul_one] at h0
    have hxl : xs.length = 3 := by
      have := congrArg List.length hx1.1
      simpa using this.symm
    have hxi : xs[i]? = some (xs[i]'(by omega)) := List.getElem?_eq_getElem (by omega)
    rw [hxi] at h0
    obtain ⟨k, e1, e2, _⟩ := DataW.trod_int Tryz.underlying3 h0
    rw [hx1.1, List.getElem?_map, hxi, Option.map_some, e2] at hd
    have hk : k = n := by simpa using hd
    subst hk
    have h1 : ((cs.toList.drop i).take 1)[0]? = some (.int .i64 k) := by rw [e1]; rfl
    rw [List.getElem?_take, List.getElem?_drop] at h1
    simpa using h1
  exact ⟨one 0 x (by omega) rfl, one 1 y (by omega) rfl, one 2 z (by omega) rfl⟩
theorem of_laid {W : World} (h : laidMetH Tryz.prog [("keepsake/geom.least", Rows.laid_keepsake_geom_least), ("keepsake/geom.most", Rows.laid_keepsake_geom_most)] W) : Bnd W := by
  rw [MakeChecks.laidMetH_plain _ _ _ plain] at h
  obtain ⟨ps, ⟨g0, t0, cs0, f0, p0, q0, hg0, ht0, hv0, hd0, h1, _⟩, _⟩ := h
  obtain ⟨g1, t1, cs1, f1, p1, q1, hg1, ht1, hv1, hd1, _, _⟩ := h1
  obtain rfl := Option.some.inj (gLeast.symm.trans hg0)
  obtain rfl := Option.some.inj (tLeast.symm.trans ht0)
  obtain rfl := Option.some.inj (gMost.symm.trans hg1)
  obtain rfl := Option.some.inj (tMost.symm.trans ht1)
  obtain ⟨a0, a1, a2⟩ := cells_of hd0
  obtain ⟨b0, b1, b2⟩ := cells_of hd1
  intro i hi
  have hc := World.var?_cell hg0 hv0 i
  have hd := World.var?_cell hg1 hv1 i
  match i, hi with
  | 0, _ => exact ⟨hc.trans a0, hd.trans b0⟩
  | 1, _ => exact ⟨hc.trans a1, hd.trans b1⟩
  | 2, _ => exact ⟨hc.trans a2, hd.trans b2⟩
/-- The heap that the program's own initialisers leave meets the condition. -/
theorem door_met (os : Os) (args : Array Value) : laidMetH Tryz.prog [("keepsake/geom.least", Rows.laid_keepsake_geom_least), ("keepsake/geom.most", Rows.laid_keepsake_geom_most)] ((World.doorLaid Tryz.prog 400 os).forCall (fun _ _ => 0) ⟨#[], args, []⟩).memory :=
  laidMetH_of_parts3 (fuel := 8) (laidMet_of_run' 8 (by kernel_rfl) (by kernel_rfl)) (by kernel_rfl) (by kernel_rfl)
theorem cGeo : Tryz.prog.cellsOf 23 = 3 := by kernel_rfl
set_option maxRecDepth 100000 in
/-- A shape by value. -/
theorem open_geo {H : Type} {enc : TypeId × Value → H} {W : World} {r : Reach} {b0 : Nat} {v : Value} {d : DataW H} {p : List MemPlace} (hval : Value.okWide Tryz.prog W r b0 23 v)
    (h : DataW.Trod enc Tryz.prog W 0 (fun _ => true) true 23 v d p) :
    ∃ a b c : Int, v = .agg #[.int .i64 a, .int .i64 b, .int .i64 c] ∧ (Lit.int .i64 a).wf = true ∧ (Lit.int .i64 b).wf = true ∧ (Lit.int .i64 c).wf = true := by
  obtain ⟨cs, rfl, _⟩ := okWide_struct Tryz.underlying23 hval
  obtain ⟨fuel, hf⟩ := h
  obtain ⟨xs, n, _, _, hl, hxl, hel⟩ := DataW.trod_struct Tryz.underlying23 hf
  rw [cGeo] at hl
  have e0 : DataW.trod enc Tryz.prog W 0 (fun _ => true) true n 3 (((Value.agg cs).cells.toList.drop 0).take (Tryz.prog.cellsOf 3)) = xs[0]? := hel 0 _ rfl
  rw [cInt] at e0
  have e1 : DataW.trod enc Tryz.prog W 0 (fun _ => true) true n 3 (((Value.agg cs).cells.toList.drop 1).take (Tryz.prog.cellsOf 3)) = xs[1]? := hel 1 _ rfl
  rw [cInt] at e1
  have e2 : DataW.trod enc Tryz.prog W 0 (fun _ => true) true n 3 (((Value.agg cs).cells.toList.drop 2).take (Tryz.prog.cellsOf 3)) = xs[2]? := hel 2 _ rfl
  rw [cInt] at e2
  simp only [Value.cells] at hl e0 e1 e2
  obtain ⟨l, rfl⟩ : ∃ l : List Value, cs = l.toArray := ⟨cs.toList, by simp⟩
  match xs, hxl with
  | [y0, y1, y2], _ =>
    match l, hl with
    | [v0, v1, v2], _ =>
      obtain ⟨a, h0, _, w0⟩ := DataW.trod_int Tryz.underlying3 e0
      obtain ⟨b, h1, _, w1⟩ := DataW.trod_int Tryz.underlying3 e1
      obtain ⟨c, h2, _, w2⟩ := DataW.trod_int Tryz.underlying3 e2
      simp at h0 h1 h2
      subst h0 h1 h2
      exact ⟨a, b, c, rfl, w0, w1, w2⟩
end Go.Proofs.YtopnodkdpehdoaaGreatDoor.GeoL
