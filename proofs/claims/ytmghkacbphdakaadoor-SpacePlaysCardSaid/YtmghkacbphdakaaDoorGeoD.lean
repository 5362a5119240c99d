/- geom.Check, Data, Place, Room, turn, Super, Key and the chapter's example: the walks of their texts. The condition: that the least and the most numbers lie in the program's two variables. -/
import Derived.Test.YtmghkacbphdakaaDoorGeoC
import Derived.Deep.RegionHeld3
namespace Go.Proofs.YtmghkacbphdakaaDoor.GeoD
open Go.RowKit
open GeoN GeoC
set_option maxRecDepth 100000 in
/-- What geom.Check answers. -/
theorem Check (a b c : Int) (w : World) (hb : Bnd w) :
    Calls Tryd.prog 17 #[.agg #[.int .i64 a, .int .i64 b, .int .i64 c]] w fun e w' => e = .returned (.int .i64 (check a b c)) ∧ Below w.heap.size w w' := by
  obtain ⟨W1, hW1⟩ : ∃ W1, W1 = w.alloc (.cells #[.int .i64 a, .int .i64 b, .int .i64 c] 23) := ⟨_, rfl⟩
  have hb1 : Below w.heap.size w W1 := by rw [hW1]; exact (Below.refl _ _).alloc (Nat.le_refl _) _
  have hk1 : W1.heap[w.heap.size]? = some (.cells #[.int .i64 a, .int .i64 b, .int .i64 c] 23 (0, 0)) := by rw [hW1]; exact heap_alloc_new w _
  have hs1 : W1.heap.size = w.heap.size + 1 := by rw [hW1]; simp
  have HN := Lib.hid (fun W h => nearest a b c W h)
  have HR := Lib.hid (hb.step hb1)
  have he := fun W => run_neq_geo W a b c (near 0 a) (near 1 b) (near 2 c) (decide (right a b c)) (near_right a b c)
  have k0 : W1.cell? ⟨w.heap.size, 0, none⟩ = some (.int .i64 a) := blk_cell hk1 rfl
  have k1 : W1.cell? ⟨w.heap.size, 1, none⟩ = some (.int .i64 b) := blk_cell hk1 rfl
  have k2 : W1.cell? ⟨w.heap.size, 2, none⟩ = some (.int .i64 c) := blk_cell hk1 rfl
  have HK := Lib.hid hk1
  have HB := Lib.hid hb1
  have HS := Lib.hid hs1
  have HC : Hid (check a b c = if decide (right a b c) = true then 0 else 2) := by
    show _ = _
    unfold check
    by_cases h : right a b c <;> simp [h]
  generalize decide (right a b c) = q at *
  generalize near 0 a = x at *
  generalize near 1 b = y at *
  generalize near 2 c = z at *
  go_enter Tryd.func17, Tryd.ntmps17
  go_upto_region 1 with (fail)
  rw [← hW1]
  clear hW1 hb1 hk1 hs1 hb
  go_region_held3 (fun w' => w'.cell? ⟨w.heap.size, 0, none⟩ = some (.int .i64 a) ∧ w'.cell? ⟨w.heap.size, 1, none⟩ = some (.int .i64 b) ∧ w'.cell? ⟨w.heap.size, 2, none⟩ = some (.int .i64 c))
    (first | exact ⟨k0, k1, k2⟩ | exact hS1)
    (first | (go_at_call 27; refine (HN.out _ (HR.out.step (Below.refl _ _).drew)).mono ?_; rintro e w1 ⟨rfl, hb1⟩; have HB1 := Lib.hid hb1; have hK1 := (hb1.block _ (by show w.heap.size < W1.heap.size; rw [HS.out]; omega)).trans HK.out; have hS1 := And.intro (blk_cell (i := 0) (u := .int .i64 a) hK1 rfl) (And.intro (blk_cell (i := 1) (u := .int .i64 b) hK1 rfl) (blk_cell (i := 2) (u := .int .i64 c) hK1 rfl)); clear hb1 hK1))
  have HBe := Lib.hid (HB.out.drew.trans (HB1.out.mono (by show w.heap.size ≤ W1.heap.size; rw [HS.out]; omega)))
  clear hS1 k0 k1 k2 HB1 HB HK HS HR HN he
  cases q
  · go_wp2_with fail
    go_ret
    exact ⟨by rw [HC.out]; rfl, HBe.out⟩
  · go_wp2_with fail
    go_ret
    exact ⟨by rw [HC.out]; rfl, HBe.out⟩
set_option maxRecDepth 100000 in
/-- What geom.Data answers. -/
theorem Data (a b c : Int) (w : World) (hb : Bnd w) :
    Calls Tryd.prog 18 #[.agg #[.int .i64 a, .int .i64 b, .int .i64 c]] w fun e w' => e = .returned (.int .i64 (data a b c)) ∧ Below w.heap.size w w' := by
  obtain ⟨W1, hW1⟩ : ∃ W1, W1 = w.alloc (.cells #[.int .i64 a, .int .i64 b, .int .i64 c] 23) := ⟨_, rfl⟩
  have hb1 : Below w.heap.size w W1 := by rw [hW1]; exact (Below.refl _ _).alloc (Nat.le_refl _) _
  have hk1 : W1.heap[w.heap.size]? = some (.cells #[.int .i64 a, .int .i64 b, .int .i64 c] 23 (0, 0)) := by rw [hW1]; exact heap_alloc_new w _
  have HN := Lib.hid (fun W h => Check a b c W h)
  have HR := Lib.hid (hb.step hb1)
  have k0 : W1.cell? ⟨w.heap.size, 0, none⟩ = some (.int .i64 a) := blk_cell hk1 rfl
  have k1 : W1.cell? ⟨w.heap.size, 1, none⟩ = some (.int .i64 b) := blk_cell hk1 rfl
  have k2 : W1.cell? ⟨w.heap.size, 2, none⟩ = some (.int .i64 c) := blk_cell hk1 rfl
  have HK := Lib.hid hk1
  have HB := Lib.hid hb1
  have HS := Lib.hid (show w.heap.size < W1.heap.size by rw [hW1]; simp)
  go_enter Tryd.func18, Tryd.ntmps18
  go_upto_region 1 with (fail)
  rw [← hW1]
  clear hW1 hb1 hk1 hb
  by_cases hr : right a b c
  · have hra : a ≤ 1024 ∧ 8 ≤ a := ⟨hr.2.1, hr.1⟩
    have HD := Lib.hid (data_yes hr)
    rw [check_yes hr] at HN
    clear hr
    go_wp2_with (first | (go_at_call 17; refine (HN.out _ HR.out).mono ?_; rintro e w1 ⟨rfl, hb1⟩; have HB1 := Lib.hid hb1; have c0 := blk_cell (i := 0) (u := .int .i64 a) ((hb1.block _ HS.out).trans HK.out) rfl; clear hb1))
    go_ret
    exact ⟨by rw [HD.out] <;> rfl, HB.out.trans (HB1.out.mono HB.out.size)⟩
  · have HD := Lib.hid (data_no hr)
    rw [check_no hr] at HN
    clear hr
    go_wp2_with (first | (go_at_call 17; refine (HN.out _ HR.out).mono ?_; rintro e w1 ⟨rfl, hb1⟩; have HB1 := Lib.hid hb1; clear hb1))
    go_ret
    exact ⟨by rw [HD.out] <;> rfl, HB.out.trans (HB1.out.mono HB.out.size)⟩
set_option maxRecDepth 100000 in
/-- What geom.Room answers. -/
theorem Room (a b c u : Int) (w : World) (hb : Bnd w) (hu : u ≤ 9223372036854775807) :
    Calls Tryd.prog 25 #[.agg #[.int .i64 a, .int .i64 b, .int .i64 c], .int .i64 u] w fun e w' => e = .returned (.int .i64 (room a b c u)) ∧ Below w.heap.size w w' := by
  obtain ⟨W1, hW1⟩ : ∃ W1, W1 = w.alloc (.cells #[.int .i64 a, .int .i64 b, .int .i64 c] 23) := ⟨_, rfl⟩
  have hb1 : Below w.heap.size w W1 := by rw [hW1]; exact (Below.refl _ _).alloc (Nat.le_refl _) _
  have hk1 : W1.heap[w.heap.size]? = some (.cells #[.int .i64 a, .int .i64 b, .int .i64 c] 23 (0, 0)) := by rw [hW1]; exact heap_alloc_new w _
  have HN := Lib.hid (fun W h => Data a b c W h)
  have HR := Lib.hid (hb.step hb1)
  have k0 : W1.cell? ⟨w.heap.size, 0, none⟩ = some (.int .i64 a) := blk_cell hk1 rfl
  have k1 : W1.cell? ⟨w.heap.size, 1, none⟩ = some (.int .i64 b) := blk_cell hk1 rfl
  have k2 : W1.cell? ⟨w.heap.size, 2, none⟩ = some (.int .i64 c) := blk_cell hk1 rfl
  have HB := Lib.hid hb1
  go_enter Tryd.func25, Tryd.ntmps25
  go_upto_region 1 with (fail)
  rw [← hW1]
  clear hW1 hb1 hk1 hb
  by_cases h0 : u < 0
  · have HD := Lib.hid (room_neg (b := a) (l := b) (f := c) h0)
    go_wp2_with fail
    go_ret
    exact ⟨by rw [HD.out] <;> rfl, HB.out⟩
  · have HD := Lib.hid (room_max (b := a) (l := b) (f := c) (used := u) (by omega))
    have hd := data_le a b c
    generalize data a b c = d at *
    obtain ⟨hd0, hd1⟩ := hd
    have hm : ∀ (W : World) (ts : Array TypeId) (t : TypeId), (Builtin.max_ ts t #[.int .i64 (d - 1 - u), .int .i64 0]).run Tryd.prog W = .ok (.int .i64 (max (d - 1 - u) 0)) W := fun W ts t => by rw [run_max_int2, ite_max]
    rw [HD.out] at hm
    go_wp2_with (first | (go_at_call 18; refine (HN.out _ HR.out).mono ?_; rintro e w1 ⟨rfl, hb1⟩; have HB1 := Lib.hid hb1; clear hb1))
    go_ret
    exact ⟨rfl, HB.out.trans (HB1.out.mono HB.out.size)⟩
end Go.Proofs.YtmghkacbphdakaaDoor.GeoD
