/- keepsakeref09.Right, Data, Room, Put, Take: the walks of their texts. No conditions but those that each lemma names. -/
import Derived.Test.YtopnodkdpehdoaaGreatDoorLGeo
import Derived.Test.YtopnodkdpehdoaaGreatDoorLRef
namespace Go.Proofs.YtopnodkdpehdoaaGreatDoor.GeoR
open Go.RowKit
open GeoN GeoC
theorem dec_no {a b c : Int} (h : ¬ right a b c) : decide (right a b c) = false := decide_eq_false h
theorem dec_yes {a b c : Int} (h : right a b c) : decide (right a b c) = true := decide_eq_true h
set_option maxRecDepth 100000 in
/-- What Right answers. -/
theorem Right (a b c : Int) (w : World) :
    Calls Tryz.prog 25 #[.agg #[.int .i64 a, .int .i64 b, .int .i64 c]] w fun e w' => e = .returned (.bool (decide (right a b c))) ∧ Below w.heap.size w w' := by
  obtain ⟨W1, hW1⟩ : ∃ W1, W1 = w.alloc (.cells #[.int .i64 a, .int .i64 b, .int .i64 c] 23) := ⟨_, rfl⟩
  have hb1 : Below w.heap.size w W1 := by rw [hW1]; exact (Below.refl _ _).alloc (Nat.le_refl _) _
  have hk1 : W1.heap[w.heap.size]? = some (.cells #[.int .i64 a, .int .i64 b, .int .i64 c] 23 (0, 0)) := by rw [hW1]; exact heap_alloc_new w _
  have k0 : W1.cell? ⟨w.heap.size, 0, none⟩ = some (.int .i64 a) := blk_cell hk1 rfl
  have k1 : W1.cell? ⟨w.heap.size, 1, none⟩ = some (.int .i64 b) := blk_cell hk1 rfl
  have k2 : W1.cell? ⟨w.heap.size, 2, none⟩ = some (.int .i64 c) := blk_cell hk1 rfl
  have HB := Lib.hid hb1
  go_enter Tryz.func25, Tryz.ntmps25
  go_upto_region 1 with (fail)
  rw [← hW1]
  clear hW1 hb1 hk1
  by_cases h1 : 8 ≤ a
  · by_cases h2 : a ≤ 1024
    · by_cases h3 : 1 ≤ b
      · by_cases h4 : b ≤ 4096
        · by_cases h5 : 0 ≤ c
          · by_cases h6 : c ≤ 4294967295
            · have HD := Lib.hid (dec_yes ⟨h1, h2, h3, h4, h5, h6⟩)
              go_wp2_with fail
              go_ret
              exact ⟨by rw [HD.out] <;> rfl, HB.out⟩
            · have HD := Lib.hid (dec_no (a := a) (b := b) (c := c) (fun h => h6 h.2.2.2.2.2))
              go_wp2_with fail
              go_ret
              exact ⟨by rw [HD.out] <;> rfl, HB.out⟩
          · have HD := Lib.hid (dec_no (a := a) (b := b) (c := c) (fun h => h5 h.2.2.2.2.1))
            go_wp2_with fail
            go_ret
            exact ⟨by rw [HD.out] <;> rfl, HB.out⟩
        · have HD := Lib.hid (dec_no (a := a) (b := b) (c := c) (fun h => h4 h.2.2.2.1))
          go_wp2_with fail
          go_ret
          exact ⟨by rw [HD.out] <;> rfl, HB.out⟩
      · have HD := Lib.hid (dec_no (a := a) (b := b) (c := c) (fun h => h3 h.2.2.1))
        go_wp2_with fail
        go_ret
        exact ⟨by rw [HD.out] <;> rfl, HB.out⟩
    · have HD := Lib.hid (dec_no (a := a) (b := b) (c := c) (fun h => h2 h.2.1))
      go_wp2_with fail
      go_ret
      exact ⟨by rw [HD.out] <;> rfl, HB.out⟩
  · have HD := Lib.hid (dec_no (a := a) (b := b) (c := c) (fun h => h1 h.1))
    go_wp2_with fail
    go_ret
    exact ⟨by rw [HD.out] <;> rfl, HB.out⟩
set_option maxRecDepth 100000 in
/-- What Data answers. -/
theorem Data (a b c : Int) (w : World) :
    Calls Tryz.prog 31 #[.agg #[.int .i64 a, .int .i64 b, .int .i64 c]] w fun e w' => e = .returned (.int .i64 (data a b c)) ∧ Below w.heap.size w w' := by
  obtain ⟨W1, hW1⟩ : ∃ W1, W1 = w.alloc (.cells #[.int .i64 a, .int .i64 b, .int .i64 c] 23) := ⟨_, rfl⟩
  have hb1 : Below w.heap.size w W1 := by rw [hW1]; exact (Below.refl _ _).alloc (Nat.le_refl _) _
  have hk1 : W1.heap[w.heap.size]? = some (.cells #[.int .i64 a, .int .i64 b, .int .i64 c] 23 (0, 0)) := by rw [hW1]; exact heap_alloc_new w _
  have HN := Lib.hid (fun W => Right a b c W)
  have k0 : W1.cell? ⟨w.heap.size, 0, none⟩ = some (.int .i64 a) := blk_cell hk1 rfl
  have k1 : W1.cell? ⟨w.heap.size, 1, none⟩ = some (.int .i64 b) := blk_cell hk1 rfl
  have k2 : W1.cell? ⟨w.heap.size, 2, none⟩ = some (.int .i64 c) := blk_cell hk1 rfl
  have HK := Lib.hid hk1
  have HB := Lib.hid hb1
  have HS := Lib.hid (show w.heap.size < W1.heap.size by rw [hW1]; simp)
  go_enter Tryz.func31, Tryz.ntmps31
  go_upto_region 1 with (fail)
  rw [← hW1]
  clear hW1 hb1 hk1
  by_cases hr : right a b c
  · have hra : a ≤ 1024 ∧ 8 ≤ a := ⟨hr.2.1, hr.1⟩
    have HD := Lib.hid (data_yes hr)
    rw [dec_yes hr] at HN
    clear hr
    go_wp2_with (first | (go_at_call 25; refine (HN.out _).mono ?_; rintro e w1 ⟨rfl, hb1⟩; have HB1 := Lib.hid hb1; have c0 := blk_cell (i := 0) (u := .int .i64 a) ((hb1.block _ HS.out).trans HK.out) rfl; clear hb1))
    go_ret
    exact ⟨by rw [HD.out] <;> rfl, HB.out.trans (HB1.out.mono HB.out.size)⟩
  · have HD := Lib.hid (data_no hr)
    rw [dec_no hr] at HN
    clear hr
    go_wp2_with (first | (go_at_call 25; refine (HN.out _).mono ?_; rintro e w1 ⟨rfl, hb1⟩; have HB1 := Lib.hid hb1; clear hb1))
    go_ret
    exact ⟨by rw [HD.out] <;> rfl, HB.out.trans (HB1.out.mono HB.out.size)⟩
set_option maxRecDepth 100000 in
/-- What Room answers. -/
theorem Room (a b c u : Int) (w : World) (hu : u ≤ 9223372036854775807) :
    Calls Tryz.prog 77 #[.agg #[.int .i64 a, .int .i64 b, .int .i64 c], .int .i64 u] w fun e w' => e = .returned (.int .i64 (room a b c u)) ∧ Below w.heap.size w w' := by
  obtain ⟨W1, hW1⟩ : ∃ W1, W1 = w.alloc (.cells #[.int .i64 a, .int .i64 b, .int .i64 c] 23) := ⟨_, rfl⟩
  have hb1 : Below w.heap.size w W1 := by rw [hW1]; exact (Below.refl _ _).alloc (Nat.le_refl _) _
  have hk1 : W1.heap[w.heap.size]? = some (.cells #[.int .i64 a, .int .i64 b, .int .i64 c] 23 (0, 0)) := by rw [hW1]; exact heap_alloc_new w _
  have HN := Lib.hid (fun W => Right a b c W)
  have k0 : W1.cell? ⟨w.heap.size, 0, none⟩ = some (.int .i64 a) := blk_cell hk1 rfl
  have k1 : W1.cell? ⟨w.heap.size, 1, none⟩ = some (.int .i64 b) := blk_cell hk1 rfl
  have k2 : W1.cell? ⟨w.heap.size, 2, none⟩ = some (.int .i64 c) := blk_cell hk1 rfl
  have HK := Lib.hid hk1
  have HB := Lib.hid hb1
  have HS := Lib.hid (show w.heap.size < W1.heap.size by rw [hW1]; simp)
  go_enter Tryz.func77, Tryz.ntmps77
  go_upto_region 1 with (fail)
  rw [← hW1]
  clear hW1 hb1 hk1
  by_cases hr : right a b c
  · have hra : a ≤ 1024 ∧ 8 ≤ a := ⟨hr.2.1, hr.1⟩
    rw [dec_yes hr] at HN
    by_cases h0 : u < 0
    · have HD := Lib.hid (room_neg (b := a) (l := b) (f := c) h0)
      clear hr
      go_wp2_with (first | (go_at_call 25; refine (HN.out _).mono ?_; rintro e w1 ⟨rfl, hb1⟩; have HB1 := Lib.hid hb1; have c0 := blk_cell (i := 0) (u := .int .i64 a) ((hb1.block _ HS.out).trans HK.out) rfl; clear hb1))
      go_ret
      exact ⟨by rw [HD.out] <;> rfl, HB.out.trans (HB1.out.mono HB.out.size)⟩
    · by_cases h1 : u < a - 5
      · have HD := Lib.hid (room_yes hr (by omega) h1)
        clear hr
        go_wp2_with (first | (go_at_call 25; refine (HN.out _).mono ?_; rintro e w1 ⟨rfl, hb1⟩; have HB1 := Lib.hid hb1; have c0 := blk_cell (i := 0) (u := .int .i64 a) ((hb1.block _ HS.out).trans HK.out) rfl; clear hb1))
        go_ret
        exact ⟨by rw [HD.out] <;> rfl, HB.out.trans (HB1.out.mono HB.out.size)⟩
      · have HD := Lib.hid (room_no (b := a) (l := b) (f := c) (used := u) (fun h => h1 h.2.2))
        clear hr
        go_wp2_with (first | (go_at_call 25; refine (HN.out _).mono ?_; rintro e w1 ⟨rfl, hb1⟩; have HB1 := Lib.hid hb1; have c0 := blk_cell (i := 0) (u := .int .i64 a) ((hb1.block _ HS.out).trans HK.out) rfl; clear hb1))
        go_ret
        exact ⟨by rw [HD.out] <;> rfl, HB.out.trans (HB1.out.mono HB.out.size)⟩
  · have HD := Lib.hid (room_no (b := a) (l := b) (f := c) (used := u) (fun h => hr h.1))
    rw [dec_no hr] at HN
    clear hr
    go_wp2_with (first | (go_at_call 25; refine (HN.out _).mono ?_; rintro e w1 ⟨rfl, hb1⟩; have HB1 := Lib.hid hb1; clear hb1))
    go_ret
    exact ⟨by rw [HD.out] <;> rfl, HB.out.trans (HB1.out.mono HB.out.size)⟩
end Go.Proofs.YtopnodkdpehdoaaGreatDoor.GeoR
