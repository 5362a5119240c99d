/- From what the tied card says of the program's three variables to the walks' fact: their cells hold the least and the most numbers, and the rounds' numbers. And a superblock that comes in: its seven numbers. -/
import Derived.Test.YtghljhohbhkdeaaDoorGeoL
import Derived.Test.YtghljhohbhkdeaaDoorSLaid
import Derived.Test.YtghljhohbhkdeaaDoorSupP
namespace Go.Proofs.YtghljhohbhkdeaaDoor.SupL
open Go.ChangeShapes Go.WideShapes Go.ChangeAt Go.RowKit
open GeoN GeoC GeoL SupP
theorem plain : ([("keepsake/geom.least", Rows.laid_keepsake_geom_least), ("keepsake/geom.most", Rows.laid_keepsake_geom_most), ("keepsake/sha.rounds", Rows.laid_keepsake_sha_rounds)].all fun x : String × DataW Unit => x.2.handleName?.isNone) = true := by kernel_rfl
theorem of_laid {W : World} (h : laidMetH Tryd.prog [("keepsake/geom.least", Rows.laid_keepsake_geom_least), ("keepsake/geom.most", Rows.laid_keepsake_geom_most), ("keepsake/sha.rounds", Rows.laid_keepsake_sha_rounds)] W) : Gl W := by
  rw [MakeChecks.laidMetH_plain _ _ _ plain] at h
  obtain ⟨ps, ⟨g0, t0, cs0, f0, p0, q0, hg0, ht0, hv0, hd0, h1, _⟩, _⟩ := h
  obtain ⟨g1, t1, cs1, f1, p1, q1, hg1, ht1, hv1, hd1, h2, _⟩ := h1
  obtain ⟨g2, t2, cs2, f2, p2, q2, hg2, ht2, hv2, hd2, _, _⟩ := h2
  obtain rfl := Option.some.inj (gLeast.symm.trans hg0)
  obtain rfl := Option.some.inj (tLeast.symm.trans ht0)
  obtain rfl := Option.some.inj (gMost.symm.trans hg1)
  obtain rfl := Option.some.inj (tMost.symm.trans ht1)
  obtain rfl := Option.some.inj (SLaid.gRounds.symm.trans hg2)
  obtain rfl := Option.some.inj (SLaid.tRounds.symm.trans ht2)
  obtain ⟨a0, a1, a2⟩ := cells_of hd0
  obtain ⟨b0, b1, b2⟩ := cells_of hd1
  refine ⟨?_, ?_⟩
  · intro i hi
    have hc := World.var?_cell hg0 hv0 i
    have hd := World.var?_cell hg1 hv1 i
    match i, hi with
    | 0, _ => exact ⟨hc.trans a0, hd.trans b0⟩
    | 1, _ => exact ⟨hc.trans a1, hd.trans b1⟩
    | 2, _ => exact ⟨hc.trans a2, hd.trans b2⟩
  · rw [SLaid.datum] at hd2
    obtain ⟨xs, m1, rfl, hx1, hlen, hn, hel⟩ := DataW.trod_array Tryd.underlying122 hd2
    simp only [Prod.mk.injEq, DataW.agg.injEq] at hx1
    intro i hi
    have h0 := hel i hi
    rw [SLaid.c47, Nat.mul_one] at h0
    have hxi : xs[i]? = some (xs[i]'(by omega)) := List.getElem?_eq_getElem (by omega)
    rw [hxi] at h0
    obtain ⟨n, e1, e2, _⟩ := DataW.trod_int Tryd.underlying102 h0
    have hk : (kList.map fun n : Nat => (DataW.lit (.int .u32 (n : Int)) : DataW Unit))[i]? = (xs.map (·.1))[i]? := by rw [hx1.1]
    have hkl : i < kList.length := hi
    rw [List.getElem?_map, List.getElem?_map, hxi, List.getElem?_eq_getElem hkl, Option.map_some, Option.map_some, e2] at hk
    have hn2 : ((kList[i]'hkl : Nat) : Int) = n := by simpa using hk
    have hc := World.var?_cell hg2 hv2 i
    have hcs : cs2[i]? = some (.int .u32 n) := by
      have h1 : ((cs2.toList.drop i).take 1)[0]? = some (.int .u32 n) := by rw [e1]; rfl
      rw [List.getElem?_take, List.getElem?_drop] at h1
      simpa using h1
    rw [show kList.getD i 0 = kList[i]'hkl from by simp [List.getD, hkl], hn2]
    exact hc.trans hcs
/-- The heap that the program's own initialisers leave meets the condition. -/
theorem door_met (os : Os) (args : Array Value) : laidMetH Tryd.prog [("keepsake/geom.least", Rows.laid_keepsake_geom_least), ("keepsake/geom.most", Rows.laid_keepsake_geom_most), ("keepsake/sha.rounds", Rows.laid_keepsake_sha_rounds)] ((World.doorLaid Tryd.prog 400 os).forCall (fun _ _ => 0) ⟨#[], args, []⟩).memory :=
  laidMetH_of_parts3 (fuel := 8) (laidMet_of_run' 8 (by kernel_rfl) (by kernel_rfl)) (by kernel_rfl) (by kernel_rfl)
theorem cSup : Tryd.prog.cellsOf 25 = 7 := by kernel_rfl
set_option maxRecDepth 100000 in
/-- A superblock by value. -/
theorem open_sup {H : Type} {enc : TypeId × Value → H} {W : World} {r : Reach} {b0 : Nat} {v : Value} {d : DataW H} {p : List MemPlace} (hval : Value.okWide Tryd.prog W r b0 25 v)
    (h : DataW.Trod enc Tryd.prog W 0 (fun _ => true) true 25 v d p) :
    ∃ g t e k b l f : Int, v = .agg #[.int .i64 g, .int .i64 t, .int .i64 e, .int .i64 k, .int .i64 b, .int .i64 l, .int .i64 f] := by
  obtain ⟨cs, rfl, _⟩ := okWide_struct Tryd.underlying25 hval
  obtain ⟨fuel, hf⟩ := h
  obtain ⟨xs, n, _, _, hl, hxl, hel⟩ := DataW.trod_struct Tryd.underlying25 hf
  rw [cSup] at hl
  have e0 : DataW.trod enc Tryd.prog W 0 (fun _ => true) true n 3 (((Value.agg cs).cells.toList.drop 0).take (Tryd.prog.cellsOf 3)) = xs[0]? := hel 0 _ rfl
  have e1 : DataW.trod enc Tryd.prog W 0 (fun _ => true) true n 3 (((Value.agg cs).cells.toList.drop 1).take (Tryd.prog.cellsOf 3)) = xs[1]? := hel 1 _ rfl
  have e2 : DataW.trod enc Tryd.prog W 0 (fun _ => true) true n 3 (((Value.agg cs).cells.toList.drop 2).take (Tryd.prog.cellsOf 3)) = xs[2]? := hel 2 _ rfl
  have e3 : DataW.trod enc Tryd.prog W 0 (fun _ => true) true n 3 (((Value.agg cs).cells.toList.drop 3).take (Tryd.prog.cellsOf 3)) = xs[3]? := hel 3 _ rfl
  have e4 : DataW.trod enc Tryd.prog W 0 (fun _ => true) true n 23 (((Value.agg cs).cells.toList.drop 4).take (Tryd.prog.cellsOf 23)) = xs[4]? := hel 4 _ rfl
  rw [cInt] at e0 e1 e2 e3
  rw [cGeo] at e4
  simp only [Value.cells] at hl e0 e1 e2 e3 e4
  obtain ⟨l, rfl⟩ : ∃ l : List Value, cs = l.toArray := ⟨cs.toList, by simp⟩
  match xs, hxl with
  | [y0, y1, y2, y3, y4], _ =>
    match l, hl with
    | [v0, v1, v2, v3, v4, v5, v6], _ =>
      obtain ⟨g, h0, _, _⟩ := DataW.trod_int Tryd.underlying3 e0
      obtain ⟨t, h1, _, _⟩ := DataW.trod_int Tryd.underlying3 e1
      obtain ⟨e, h2, _, _⟩ := DataW.trod_int Tryd.underlying3 e2
      obtain ⟨k, h3, _, _⟩ := DataW.trod_int Tryd.underlying3 e3
      obtain ⟨zs, m, _, _, _, hzl, hzel⟩ := DataW.trod_struct Tryd.underlying23 e4
      match zs, hzl with
      | [z0, z1, z2], _ =>
        have d0 : DataW.trod enc Tryd.prog W 0 (fun _ => true) true m 3 ((((([v0, v1, v2, v3, v4, v5, v6] : List Value).drop 4).take 3).drop 0).take (Tryd.prog.cellsOf 3)) = [z0, z1, z2][0]? := hzel 0 _ rfl
        rw [cInt] at d0
        have d1 : DataW.trod enc Tryd.prog W 0 (fun _ => true) true m 3 ((((([v0, v1, v2, v3, v4, v5, v6] : List Value).drop 4).take 3).drop 1).take (Tryd.prog.cellsOf 3)) = [z0, z1, z2][1]? := hzel 1 _ rfl
        rw [cInt] at d1
        have d2 : DataW.trod enc Tryd.prog W 0 (fun _ => true) true m 3 ((((([v0, v1, v2, v3, v4, v5, v6] : List Value).drop 4).take 3).drop 2).take (Tryd.prog.cellsOf 3)) = [z0, z1, z2][2]? := hzel 2 _ rfl
        rw [cInt] at d2
        obtain ⟨b, h4, _, _⟩ := DataW.trod_int Tryd.underlying3 d0
        obtain ⟨l, h5, _, _⟩ := DataW.trod_int Tryd.underlying3 d1
        obtain ⟨f, h6, _, _⟩ := DataW.trod_int Tryd.underlying3 d2
        simp at h0 h1 h2 h3
        simp at h4 h5 h6
        subst h0 h1 h2 h3 h4 h5 h6
        exact ⟨g, t, e, k, b, l, f, rfl⟩
end Go.Proofs.YtghljhohbhkdeaaDoor.SupL
