/- GeoC GeoD: one behind the other. -/
import Derived.Test.YtopnodkdpehdoaaGreatDoorLOct
import Derived.Test.YtopnodkdpehdoaaGreatDoorMem
import Derived.Test.YtopnodkdpehdoaaGreatDoorRows
import Derived.Laws.StructEq
import Derived.Deep.QuietTactic
import Derived.BigQuiet
import Derived.Deep.DeepCutAuto
import Derived.Outline
import Derived.Deep.RegionHeld3
/- geom.nearest, numbersOf, shape, Check, Data, Place, Room, Super, Key, widths: the walks of their texts. The condition: that the least and the most numbers lie in the program's two variables. -/
namespace Go.Proofs.YtopnodkdpehdoaaGreatDoor.GeoC
open Go.RowKit
open GeoN
/-- The least and the most numbers lie in the program's variables. -/
def Bnd (w : World) : Prop := ∀ i, i < 3 → w.cell? ⟨0, i, none⟩ = some (.int .i64 (lo i)) ∧ w.cell? ⟨1, i, none⟩ = some (.int .i64 (hi i))
theorem Bnd.lt {w : World} (h : Bnd w) : 0 < w.heap.size ∧ 1 < w.heap.size :=
  ⟨World.block_lt_of_cell? w _ (h 0 (by omega)).1, World.block_lt_of_cell? w _ (h 0 (by omega)).2⟩
theorem Bnd.below {w w' : World} (h : Bnd w) {B : Nat} (hb : Below B w w') (h1 : 0 < B) (h2 : 1 < B) : Bnd w' := fun i hi =>
  ⟨(hb.cell (p := ⟨_, i, none⟩) h1).trans (h i hi).1, (hb.cell (p := ⟨_, i, none⟩) h2).trans (h i hi).2⟩
theorem Bnd.step {w w' : World} (h : Bnd w) (hb : Below w.heap.size w w') : Bnd w' := h.below hb h.lt.1 h.lt.2
/-- Three numbers as cells. -/
def c3 (a b c : Int) : Array Value := #[.int .i64 a, .int .i64 b, .int .i64 c]
theorem infoN : (Tryz.prog.info? 123).map (·.size) = some 3 := by kernel_rfl
theorem infoG : (Tryz.prog.info? 23).map (·.size) = some 3 := by kernel_rfl
theorem one3 (a b c : Int) : (#[.int .i64 a, .int .i64 b, .int .i64 c] : Array Value).all (·.oneCell') = true := by simp [Value.oneCell']
/-- What geom.numbersOf answers. -/
theorem numbersOf (a b c : Int) (w : World) :
    Calls Tryz.prog 66 #[.agg #[.int .i64 a, .int .i64 b, .int .i64 c]] w fun e w' => e = .returned (.agg #[.int .i64 a, .int .i64 b, .int .i64 c]) ∧ Below w.heap.size w w' := by
  go_enter Tryz.func66, Tryz.ntmps66
  go_wp2_with (refine wpList_store_row rfl 123 _ _ rfl (w.heap.size + 1) _ rfl rfl 123 _ (heap_alloc2_new w _ _) infoN rfl (one3 a b c) ?_)
  refine bodyPost_ret (v := .agg #[.int .i64 a, .int .i64 b, .int .i64 c])
    (results_cell_row Tryz.results66 _ _ (w.heap.size + 1) 123 _ (0, 0) _ rfl (setRow_same (heap_alloc2_new w _ _)) Tryz.underlying123 rfl infoN) rfl
    ⟨rfl, below_setRow (((Below.refl _ _).alloc (Nat.le_refl _) _).alloc (by simp) _) (by omega) _⟩
/-- What (numbers).shape answers. -/
theorem shape (a b c : Int) (w : World) :
    Calls Tryz.prog 67 #[.agg #[.int .i64 a, .int .i64 b, .int .i64 c]] w fun e w' => e = .returned (.agg #[.int .i64 a, .int .i64 b, .int .i64 c]) ∧ Below w.heap.size w w' := by
  go_enter Tryz.func67, Tryz.ntmps67
  go_wp2_with (refine wpList_store_row rfl 23 _ _ rfl (w.heap.size + 1) _ rfl rfl 23 _ (heap_alloc2_new w _ _) infoG rfl (one3 a b c) ?_)
  refine bodyPost_ret (v := .agg #[.int .i64 a, .int .i64 b, .int .i64 c])
    (results_cell_row Tryz.results67 _ _ (w.heap.size + 1) 23 _ (0, 0) _ rfl (setRow_same (heap_alloc2_new w _ _)) Tryz.underlying23 rfl infoG) rfl
    ⟨rfl, below_setRow (((Below.refl _ _).alloc (Nat.le_refl _) _).alloc (by simp) _) (by omega) _⟩
/-- The cells behind 'j' rounds. -/
def row (X : Nat → Int) (j : Nat) : Array Value := #[.int .i64 (at_ X j 0), .int .i64 (at_ X j 1), .int .i64 (at_ X j 2)]
theorem row_at (X : Nat → Int) (j : Nat) (h : j < 3) : (row X j)[j]? = some (.int .i64 (X j)) := by
  match j, h with
  | 0, _ => simp [row, at_]
  | 1, _ => simp [row, at_]
  | 2, _ => simp [row, at_]
theorem row_next (X : Nat → Int) (j : Nat) (h : j < 3) : (row X j).setIfInBounds j (.int .i64 (near j (X j))) = row X (j + 1) := by
  match j, h with
  | 0, _ => simp [row, at_]
  | 1, _ => simp [row, at_]
  | 2, _ => simp [row, at_]
theorem lo_hi (j : Nat) : -9223372036854775808 ≤ lo j ∧ lo j ≤ 9223372036854775807 ∧ -9223372036854775808 ≤ hi j ∧ hi j ≤ 9223372036854775807 := by
  match j with
  | 0 => simp [lo, hi]
  | 1 => simp [lo, hi]
  | _ + 2 => simp [lo, hi]
set_option maxRecDepth 100000 in
/-- What geom.nearest answers. -/
theorem nearest (a b c : Int) (w : World) (hb : Bnd w) :
    Calls Tryz.prog 46 #[.agg #[.int .i64 a, .int .i64 b, .int .i64 c]] w fun e w' => e = .returned (.agg #[.int .i64 (near 0 a), .int .i64 (near 1 b), .int .i64 (near 2 c)]) ∧ Below w.heap.size w w' := by
  have HB := Lib.hid hb
  have GG := Lib.hid hb.lt
  clear hb
  have HX : Hid (row (three a b c) 0 = #[.int .i64 a, .int .i64 b, .int .i64 c]) := rfl
  have HY : Hid (row (three a b c) 3 = #[.int .i64 (near 0 a), .int .i64 (near 1 b), .int .i64 (near 2 c)]) := rfl
  go_enter Tryz.func46, Tryz.ntmps46
  go_upto_region 1 with (fail)
  generalize hW : World.alloc (World.alloc w _) _ = W0
  have f0 : W0.heap[w.heap.size]? = some (.cells #[.int .i64 a, .int .i64 b, .int .i64 c] 23 (0, 0)) := by rw [← hW]; exact heap_alloc2_old w _ _
  have f1 : ∃ zs : Array Value, zs.size = 3 ∧ W0.heap[w.heap.size + 1]? = some (.cells zs 23 (0, 0)) := ⟨_, rfl, by rw [← hW]; exact heap_alloc2_new w _ _⟩
  have fB : Below w.heap.size w W0 := by rw [← hW]; exact ((Below.refl _ _).alloc (Nat.le_refl _) _).alloc (by simp) _
  have fS : W0.heap.size = w.heap.size + 2 := by rw [← hW]; simp
  clear hW
  obtain ⟨zs, hzs, f1⟩ := f1
  have F1 := Lib.hid f1
  have FB := Lib.hid fB
  have FS := Lib.hid fS
  have HZ := Lib.hid hzs
  have FR := Lib.hid (HB.out.step fB)
  clear f1 fB fS hzs HB
  have k0 : W0.cell? ⟨w.heap.size, 0, none⟩ = some (.int .i64 a) := blk_cell f0 rfl
  have k1 : W0.cell? ⟨w.heap.size, 1, none⟩ = some (.int .i64 b) := blk_cell f0 rfl
  have k2 : W0.cell? ⟨w.heap.size, 2, none⟩ = some (.int .i64 c) := blk_cell f0 rfl
  clear f0
  go_upto_region 2 with (first
    | (go_at_call 66; refine (numbersOf a b c _).mono ?_; rintro e w1 ⟨rfl, hb1⟩; have HB1 := Lib.hid hb1; clear hb1)
    | (refine wpList_store_row rfl 123 _ _ rfl w1.heap.size _ rfl rfl 123 _ (heap_alloc_new w1 _) infoN rfl (one3 a b c) ?_))
  generalize hW : World.setRow (World.alloc w1 _) _ _ = W2
  have hs1 : w.heap.size + 2 ≤ w1.heap.size := by have := HB1.out.size; rw [FS.out] at this; exact this
  have g1 : W2.heap[w.heap.size + 1]? = some (.cells zs 23 (0, 0)) := by
    rw [← hW, setRow_far (by omega), Below.heap_alloc _ _ _ (by omega), HB1.out.block _ (by rw [FS.out]; omega)]
    exact F1.out
  have g3 : W2.heap[w1.heap.size]? = some (.cells (row (three a b c) 0) 123 (0, 0)) := by rw [← hW, HX.out]; exact setRow_same (heap_alloc_new w1 _)
  have gB : Below w.heap.size w W2 := by
    rw [← hW]
    exact below_setRow ((FB.out.trans (HB1.out.mono (by rw [FS.out]; omega))).alloc (by omega) _) (by omega) _
  have gR : Bnd W2 := by
    rw [← hW]
    exact FR.out.step (below_setRow (HB1.out.alloc HB1.out.size _) HB1.out.size _)
  have G1 := Lib.hid g1
  have GR := Lib.hid gR
  have GS := Lib.hid hs1
  clear hW g1 gR hs1 HB1 F1 FB FS FR k0 k1 k2 HX
  generalize three a b c = X at *
  generalize w1.heap.size = B at *
  clear w1 W0
  go_wp2_with fail
  go_loopw [7] (fun i wr => ∃ j : Nat, j ≤ 3 ∧ i = .int .i64 j ∧ wr.heap[B]? = some (.cells (row X j) 123 (0, 0)) ∧ wr.heap[w.heap.size + 1]? = some (.cells zs 23 (0, 0)) ∧ Below w.heap.size w wr ∧ Bnd wr) (fun i _ => 3 - (intOf i).toNat)
  case atStart => exact ⟨0, Nat.zero_le _, rfl, g3, G1.out, gB, GR.out⟩
  case round =>
    obtain ⟨j, hj, rfl, h3, h1, hbel, hr⟩ := hrel
    by_cases hlt : j < 3
    · have hfz := blk_free (i := j) h3
      have hv := blk_cell h3 (row_at X j hlt)
      have hl := (hr j hlt).1
      have hh := (hr j hlt).2
      have HN := Lib.hid (row_next X j hlt)
      have HQ : Hid (near j (X j) = min (max (X j) (lo j)) (hi j)) := rfl
      have hm : ∀ (W : World) (ts : Array TypeId) (t : TypeId), (Builtin.max_ ts t #[.int .i64 (X j), .int .i64 (lo j)]).run Tryz.prog W = .ok (.int .i64 (max (X j) (lo j))) W := fun W ts t => by rw [run_max_int2, ite_max]
      have hn : ∀ (W : World) (ts : Array TypeId) (t : TypeId), (Builtin.min_ ts t #[.int .i64 (max (X j) (lo j)), .int .i64 (hi j)]).run Tryz.prog W = .ok (.int .i64 (near j (X j))) W := fun W ts t => by rw [run_min_int2, ite_min]; rfl
      generalize max (X j) (lo j) = u at *
      generalize near j (X j) = y at *
      generalize X j = x at *
      generalize lo j = l at *
      generalize hi j = m at *
      have H3 := Lib.hid h3
      have H1 := Lib.hid h1
      have HB := Lib.hid hbel
      have HR := Lib.hid hr
      clear h3 h1 hbel hr HQ
      go_wp2_with fail
      go_region
      go_wp2
      go_roundw
      case rel =>
        have hBw : w.heap.size + 2 ≤ B := GS.out
        refine ⟨j + 1, by omega, by go_num, ?_, ?_, ?_, ?_⟩
        · show (wr.setCell _ _).heap[_]? = _
          rw [blk_set H3.out, HN.out]
        · show (wr.setCell _ _).heap[_]? = _
          rw [Below.heap_setCell _ _ _ _ (by simp; omega)]
          exact H1.out
        · exact (HB.out.setCell (by simp; omega) _).drew
        · intro i hi
          have h2 := GG.out
          refine ⟨?_, ?_⟩
          · show (wr.setCell _ _).cell? _ = _
            rw [World.cell?_setCell_other wr _ _ _ (fun e => by injection e; omega)]
            exact (HR.out i hi).1
          · show (wr.setCell _ _).cell? _ = _
            rw [World.cell?_setCell_other wr _ _ _ (fun e => by injection e; omega)]
            exact (HR.out i hi).2
      case measure => simp [intOf]; omega
    · have hk : j = 3 := by omega
      subst hk
      rw [HY.out] at h3
      have HB := Lib.hid hbel
      have H1 := Lib.hid h1
      have c0 : wr.cell? ⟨B, 0, none⟩ = some (.int .i64 (near 0 a)) := blk_cell h3 rfl
      have c1 : wr.cell? ⟨B, 1, none⟩ = some (.int .i64 (near 1 b)) := blk_cell h3 rfl
      have c2 : wr.cell? ⟨B, 2, none⟩ = some (.int .i64 (near 2 c)) := blk_cell h3 rfl
      obtain ⟨x, hx⟩ : ∃ x, x = near 0 a := ⟨_, rfl⟩
      obtain ⟨y, hy⟩ : ∃ y, y = near 1 b := ⟨_, rfl⟩
      obtain ⟨z, hz⟩ : ∃ z, z = near 2 c := ⟨_, rfl⟩
      rw [← hx] at c0
      rw [← hy] at c1
      rw [← hz] at c2
      have EX := Lib.hid hx
      have EY := Lib.hid hy
      have EZ := Lib.hid hz
      clear h3 hbel h1 hr hx hy hz
      have HBW := Lib.hid (show w.heap.size + 1 < wr.heap.size from (Array.getElem?_eq_some_iff.1 H1.out).1)
      go_wp2_with (first
        | (go_at_call 67; refine (shape x y z _).mono ?_; rintro e w1 ⟨rfl, hb1⟩; have HB1 := Lib.hid hb1; clear hb1)
        | (refine wpList_store_row rfl 23 _ _ rfl (w.heap.size + 1) _ rfl rfl 23 _ ((HB1.out.block _ HBW.out).trans H1.out) infoG HZ.out (one3 x y z) ?_))
      refine bodyPost_ret (v := .agg #[.int .i64 x, .int .i64 y, .int .i64 z])
        (results_cell_row Tryz.results46 _ _ (w.heap.size + 1) 23 _ (0, 0) _ rfl (setRow_same ((HB1.out.block _ HBW.out).trans H1.out)) Tryz.underlying23 rfl infoG) rfl
        ⟨by rw [EX.out, EY.out, EZ.out], below_setRow (HB.out.trans (HB1.out.mono HB.out.size)) (by omega) _⟩
theorem fields_geo : Tryz.prog.fieldsOf 23 = #[{ name := "Blocks", type := 3, offset := 0, embedded := false, tag := "", pkgPath := "", byteOffset := 0 }, { name := "Lbas", type := 3, offset := 1, embedded := false, tag := "", pkgPath := "", byteOffset := 8 }, { name := "First", type := 3, offset := 2, embedded := false, tag := "", pkgPath := "", byteOffset := 16 }] := by kernel_rfl
theorem under_geo : Tryz.prog.underlying 23 = some (.struct (Tryz.prog.fieldsOf 23)) := by kernel_rfl
theorem stood_geo : Tryz.prog.stoodInHeld 23 = false := by kernel_rfl
theorem run_in_geo (W : World) (a b c d e f : Int) (q : Bool) (h : (decide (a = d) && (decide (b = e) && decide (c = f))) = q) :
    (Op.equalIn 10000 23 (.agg #[.int .i64 a, .int .i64 b, .int .i64 c]) (.agg #[.int .i64 d, .int .i64 e, .int .i64 f])).run Tryz.prog W = .ok q W := by
  have e1 : ∀ x y : Int, (Op.equalIn 9999 3 (.int .i64 x) (.int .i64 y)).run Tryz.prog W = .ok (x == y) W := fun x y => run_equalIn_int W 9998 3 .i64 .i64 x y Tryz.underlying3
  have p0 : ∀ (x y z : Int), (part 3 #[.int .i64 x, .int .i64 y, .int .i64 z] 0).run Tryz.prog W = .ok (.int .i64 x) W := fun x y z => by simp [part, isAgg, run_underlying Tryz.underlying3]
  have p1 : ∀ (x y z : Int), (part 3 #[.int .i64 x, .int .i64 y, .int .i64 z] 1).run Tryz.prog W = .ok (.int .i64 y) W := fun x y z => by simp [part, isAgg, run_underlying Tryz.underlying3]
  have p2 : ∀ (x y z : Int), (part 3 #[.int .i64 x, .int .i64 y, .int .i64 z] 2).run Tryz.prog W = .ok (.int .i64 z) W := fun x y z => by simp [part, isAgg, run_underlying Tryz.underlying3]
  rw [run_equalIn_struct W 9999 _ _ _ under_geo stood_geo, fields_geo]
  subst h
  simp only [Op.eqFields, Sem.run_bind, Sem.run_ite, p0, p1, p2, e1, Result.andThen_ok]
  by_cases h1 : a = d <;> by_cases h2 : b = e <;> by_cases h3 : c = f <;> simp [h1, h2, h3]
/-- Two shapes held against each other. -/
theorem run_neq_geo (W : World) (a b c d e f : Int) (q : Bool) (h : (decide (a = d) && (decide (b = e) && decide (c = f))) = q) :
    (binOp .neq 23 (.agg #[.int .i64 a, .int .i64 b, .int .i64 c]) (.agg #[.int .i64 d, .int .i64 e, .int .i64 f])).run Tryz.prog W = .ok (.bool (!q)) W := by
  rw [run_neq_struct, run_in_geo W a b c d e f q h, Result.andThen_ok]
theorem run_eql_geo (W : World) (a b c d e f : Int) (q : Bool) (h : (decide (a = d) && (decide (b = e) && decide (c = f))) = q) :
    (binOp .eql 23 (.agg #[.int .i64 a, .int .i64 b, .int .i64 c]) (.agg #[.int .i64 d, .int .i64 e, .int .i64 f])).run Tryz.prog W = .ok (.bool q) W := by
  rw [run_eql_struct, run_in_geo W a b c d e f q h, Result.andThen_ok]
end Go.Proofs.YtopnodkdpehdoaaGreatDoor.GeoC
/- geom.Check, Data, Place, Room, turn, Super, Key and the chapter's example: the walks of their texts. The condition: that the least and the most numbers lie in the program's two variables. -/
namespace Go.Proofs.YtopnodkdpehdoaaGreatDoor.GeoD
open Go.RowKit
open GeoN GeoC
set_option maxRecDepth 100000 in
/-- What geom.Check answers. -/
theorem Check (a b c : Int) (w : World) (hb : Bnd w) :
    Calls Tryz.prog 22 #[.agg #[.int .i64 a, .int .i64 b, .int .i64 c]] w fun e w' => e = .returned (.int .i64 (check a b c)) ∧ Below w.heap.size w w' := by
  obtain ⟨W1, hW1⟩ : ∃ W1, W1 = w.alloc (.cells #[.int .i64 a, .int .i64 b, .int .i64 c] 23) := ⟨_, rfl⟩
  have hb1 : Below w.heap.size w W1 := by rw [hW1]; exact (Below.refl _ _).alloc (Nat.le_refl _) _
  have hk1 : W1.heap[w.heap.size]? = some (.cells #[.int .i64 a, .int .i64 b, .int .i64 c] 23 (0, 0)) := by rw [hW1]; exact heap_alloc_new w _
  have hs1 : W1.heap.size = w.heap.size + 1 := by rw [hW1]; simp
  have HN := Lib.hid (fun W h => nearest a b c W h)
  have HR := Lib.hid (hb.step hb1)
  have he := fun W => run_neq_geo W a b c (near 0 a) (near 1 b) (near 2 c) (decide (right a b c)) (near_right a b c)
  have k0 : W1.cell? ⟨w.heap.size, 0, none⟩ = some (.int .i64 a) := blk_cell hk1 rfl
  have k1 : W1.cell? ⟨w.heap.size, 1, none⟩ = some (.int .i64 b) := blk_cell hk1 rfl
  have k2 : W1.cell? ⟨w.heap.size, 2, none⟩ = some (.int .i64 c) := blk_cell hk1 rfl
  have HK := Lib.hid hk1
  have HB := Lib.hid hb1
  have HS := Lib.hid hs1
  have HC : Hid (check a b c = if decide (right a b c) = true then 0 else 2) := by
    show _ = _
    unfold check
    by_cases h : right a b c <;> simp [h]
  generalize decide (right a b c) = q at *
  generalize near 0 a = x at *
  generalize near 1 b = y at *
  generalize near 2 c = z at *
  go_enter Tryz.func22, Tryz.ntmps22
  go_upto_region 1 with (fail)
  rw [← hW1]
  clear hW1 hb1 hk1 hs1 hb
  go_region_held3 (fun w' => w'.cell? ⟨w.heap.size, 0, none⟩ = some (.int .i64 a) ∧ w'.cell? ⟨w.heap.size, 1, none⟩ = some (.int .i64 b) ∧ w'.cell? ⟨w.heap.size, 2, none⟩ = some (.int .i64 c))
    (first | exact ⟨k0, k1, k2⟩ | exact hS1)
    (first | (go_at_call 46; refine (HN.out _ (HR.out.step (Below.refl _ _).drew)).mono ?_; rintro e w1 ⟨rfl, hb1⟩; have HB1 := Lib.hid hb1; have hK1 := (hb1.block _ (by show w.heap.size < W1.heap.size; rw [HS.out]; omega)).trans HK.out; have hS1 := And.intro (blk_cell (i := 0) (u := .int .i64 a) hK1 rfl) (And.intro (blk_cell (i := 1) (u := .int .i64 b) hK1 rfl) (blk_cell (i := 2) (u := .int .i64 c) hK1 rfl)); clear hb1 hK1))
  have HBe := Lib.hid (HB.out.drew.trans (HB1.out.mono (by show w.heap.size ≤ W1.heap.size; rw [HS.out]; omega)))
  clear hS1 k0 k1 k2 HB1 HB HK HS HR HN he
  cases q
  · go_wp2_with fail
    go_ret
    exact ⟨by rw [HC.out]; rfl, HBe.out⟩
  · go_wp2_with fail
    go_ret
    exact ⟨by rw [HC.out]; rfl, HBe.out⟩
set_option maxRecDepth 100000 in
/-- What geom.Data answers. -/
theorem Data (a b c : Int) (w : World) (hb : Bnd w) :
    Calls Tryz.prog 89 #[.agg #[.int .i64 a, .int .i64 b, .int .i64 c]] w fun e w' => e = .returned (.int .i64 (data a b c)) ∧ Below w.heap.size w w' := by
  obtain ⟨W1, hW1⟩ : ∃ W1, W1 = w.alloc (.cells #[.int .i64 a, .int .i64 b, .int .i64 c] 23) := ⟨_, rfl⟩
  have hb1 : Below w.heap.size w W1 := by rw [hW1]; exact (Below.refl _ _).alloc (Nat.le_refl _) _
  have hk1 : W1.heap[w.heap.size]? = some (.cells #[.int .i64 a, .int .i64 b, .int .i64 c] 23 (0, 0)) := by rw [hW1]; exact heap_alloc_new w _
  have HN := Lib.hid (fun W h => Check a b c W h)
  have HR := Lib.hid (hb.step hb1)
  have k0 : W1.cell? ⟨w.heap.size, 0, none⟩ = some (.int .i64 a) := blk_cell hk1 rfl
  have k1 : W1.cell? ⟨w.heap.size, 1, none⟩ = some (.int .i64 b) := blk_cell hk1 rfl
  have k2 : W1.cell? ⟨w.heap.size, 2, none⟩ = some (.int .i64 c) := blk_cell hk1 rfl
  have HK := Lib.hid hk1
  have HB := Lib.hid hb1
  have HS := Lib.hid (show w.heap.size < W1.heap.size by rw [hW1]; simp)
  go_enter Tryz.func89, Tryz.ntmps89
  go_upto_region 1 with (fail)
  rw [← hW1]
  clear hW1 hb1 hk1 hb
  by_cases hr : right a b c
  · have hra : a ≤ 1024 ∧ 8 ≤ a := ⟨hr.2.1, hr.1⟩
    have HD := Lib.hid (data_yes hr)
    rw [check_yes hr] at HN
    clear hr
    go_wp2_with (first | (go_at_call 22; refine (HN.out _ HR.out).mono ?_; rintro e w1 ⟨rfl, hb1⟩; have HB1 := Lib.hid hb1; have c0 := blk_cell (i := 0) (u := .int .i64 a) ((hb1.block _ HS.out).trans HK.out) rfl; clear hb1))
    go_ret
    exact ⟨by rw [HD.out] <;> rfl, HB.out.trans (HB1.out.mono HB.out.size)⟩
  · have HD := Lib.hid (data_no hr)
    rw [check_no hr] at HN
    clear hr
    go_wp2_with (first | (go_at_call 22; refine (HN.out _ HR.out).mono ?_; rintro e w1 ⟨rfl, hb1⟩; have HB1 := Lib.hid hb1; clear hb1))
    go_ret
    exact ⟨by rw [HD.out] <;> rfl, HB.out.trans (HB1.out.mono HB.out.size)⟩
set_option maxRecDepth 100000 in
/-- What geom.Room answers. -/
theorem Room (a b c u : Int) (w : World) (hb : Bnd w) (hu : u ≤ 9223372036854775807) :
    Calls Tryz.prog 87 #[.agg #[.int .i64 a, .int .i64 b, .int .i64 c], .int .i64 u] w fun e w' => e = .returned (.int .i64 (room a b c u)) ∧ Below w.heap.size w w' := by
  obtain ⟨W1, hW1⟩ : ∃ W1, W1 = w.alloc (.cells #[.int .i64 a, .int .i64 b, .int .i64 c] 23) := ⟨_, rfl⟩
  have hb1 : Below w.heap.size w W1 := by rw [hW1]; exact (Below.refl _ _).alloc (Nat.le_refl _) _
  have hk1 : W1.heap[w.heap.size]? = some (.cells #[.int .i64 a, .int .i64 b, .int .i64 c] 23 (0, 0)) := by rw [hW1]; exact heap_alloc_new w _
  have HN := Lib.hid (fun W h => Data a b c W h)
  have HR := Lib.hid (hb.step hb1)
  have k0 : W1.cell? ⟨w.heap.size, 0, none⟩ = some (.int .i64 a) := blk_cell hk1 rfl
  have k1 : W1.cell? ⟨w.heap.size, 1, none⟩ = some (.int .i64 b) := blk_cell hk1 rfl
  have k2 : W1.cell? ⟨w.heap.size, 2, none⟩ = some (.int .i64 c) := blk_cell hk1 rfl
  have HB := Lib.hid hb1
  go_enter Tryz.func87, Tryz.ntmps87
  go_upto_region 1 with (fail)
  rw [← hW1]
  clear hW1 hb1 hk1 hb
  by_cases h0 : u < 0
  · have HD := Lib.hid (room_neg (b := a) (l := b) (f := c) h0)
    go_wp2_with fail
    go_ret
    exact ⟨by rw [HD.out] <;> rfl, HB.out⟩
  · have HD := Lib.hid (room_max (b := a) (l := b) (f := c) (used := u) (by omega))
    have hd := data_le a b c
    generalize data a b c = d at *
    obtain ⟨hd0, hd1⟩ := hd
    have hm : ∀ (W : World) (ts : Array TypeId) (t : TypeId), (Builtin.max_ ts t #[.int .i64 (d - 1 - u), .int .i64 0]).run Tryz.prog W = .ok (.int .i64 (max (d - 1 - u) 0)) W := fun W ts t => by rw [run_max_int2, ite_max]
    rw [HD.out] at hm
    go_wp2_with (first | (go_at_call 89; refine (HN.out _ HR.out).mono ?_; rintro e w1 ⟨rfl, hb1⟩; have HB1 := Lib.hid hb1; clear hb1))
    go_ret
    exact ⟨rfl, HB.out.trans (HB1.out.mono HB.out.size)⟩
end Go.Proofs.YtopnodkdpehdoaaGreatDoor.GeoD
