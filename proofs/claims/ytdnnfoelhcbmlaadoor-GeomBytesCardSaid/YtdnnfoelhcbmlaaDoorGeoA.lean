/- The chapter's example: the walk of its text. The condition: that the least and the most numbers lie in the program's two variables. -/
import Derived.Test.YtdnnfoelhcbmlaaDoorGeoD
namespace Go.Proofs.YtdnnfoelhcbmlaaDoor.GeoA
open Go.RowKit
open GeoN GeoC
set_option maxRecDepth 100000 in
theorem alive (w : World) (hb : Bnd w) : Calls Tryd.prog 14 #[] w fun e w' => e = .returned (.bool true) ∧ Below w.heap.size w w' := by
  have HD := Lib.hid (fun W h => GeoD.Data 8 10 0 W h)
  rw [show data 8 10 0 = 4 from by decide] at HD
  have HR := Lib.hid (fun W h => GeoD.Room 8 10 0 0 W h (by omega))
  rw [show room 8 10 0 0 = 3 from by decide] at HR
  have HS := Lib.hid (fun W => GeoD.Super 3 W (by omega))
  rw [show turn 3 = 1 from by decide] at HS
  have HK := Lib.hid (fun W => GeoD.Key 4 W (by omega))
  rw [show turn 4 = 0 from by decide] at HK
  go_enter Tryd.func14, Tryd.ntmps14
  go_upto_region 2 with (refine wpList_store_row rfl 23 _ _ rfl w.heap.size _ rfl rfl 23 _ (heap_alloc_new w _) infoG rfl (one3 8 10 0) ?_)
  generalize hW1 : World.setRow _ _ _ = W1
  have hk1 : W1.heap[w.heap.size]? = some (.cells #[.int .i64 8, .int .i64 10, .int .i64 0] 23 (0, 0)) := by rw [← hW1]; exact setRow_same (heap_alloc_new w _)
  have hb1 : Below w.heap.size w W1 := by rw [← hW1]; exact below_setRow ((Below.refl _ _).alloc (Nat.le_refl _) _) (Nat.le_refl _) _
  have hbl := Lib.hid (show w.heap.size < W1.heap.size from (Array.getElem?_eq_some_iff.1 hk1).1)
  have k0 : W1.cell? ⟨w.heap.size, 0, none⟩ = some (.int .i64 8) := blk_cell hk1 rfl
  have k1 : W1.cell? ⟨w.heap.size, 1, none⟩ = some (.int .i64 10) := blk_cell hk1 rfl
  have k2 : W1.cell? ⟨w.heap.size, 2, none⟩ = some (.int .i64 0) := blk_cell hk1 rfl
  have HK1 := Lib.hid hk1
  have HB1 := Lib.hid hb1
  have HR1 := Lib.hid (hb.step hb1)
  clear hW1 hk1 hb1 hb
  go_wp2_with (first
    | (go_at_call 11; refine (HD.out _ HR1.out).mono ?_; rintro e w2 ⟨rfl, hb2⟩; have HB2 := Lib.hid hb2; have HR2 := Lib.hid (HR1.out.step hb2); have HK2 := Lib.hid ((hb2.block _ hbl.out).trans HK1.out); have c0 : w2.cell? ⟨w.heap.size, 0, none⟩ = some (.int .i64 8) := blk_cell HK2.out rfl; have c1 : w2.cell? ⟨w.heap.size, 1, none⟩ = some (.int .i64 10) := blk_cell HK2.out rfl; have c2 : w2.cell? ⟨w.heap.size, 2, none⟩ = some (.int .i64 0) := blk_cell HK2.out rfl; clear hb2 k0 k1 k2)
    | (go_at_call 12; refine (HR.out _ HR2.out).mono ?_; rintro e w3 ⟨rfl, hb3⟩; have HB3 := Lib.hid hb3; clear hb3 c0 c1 c2)
    | (go_at_call 19; refine (HS.out _).mono ?_; rintro e w4 ⟨rfl, rfl⟩)
    | (go_at_call 20; refine (HK.out _).mono ?_; rintro e w4 ⟨rfl, rfl⟩))
  go_ret
  exact ⟨rfl, (HB1.out.trans (HB2.out.mono HB1.out.size)).trans (HB3.out.mono (Nat.le_trans HB1.out.size HB2.out.size))⟩
end Go.Proofs.YtdnnfoelhcbmlaaDoor.GeoA
