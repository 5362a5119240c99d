/- geo, Used, Room, Open, isFull, isOver and Back's closure, where there is a space and where there is none: the walks of their texts. The condition: that the least and the most numbers lie in the program's two variables. -/
import Derived.Test.YtmghkacbphdakaaDoorSpaC
import Derived.Test.YtmghkacbphdakaaDoorGeoD
import Derived.StillTailTactics
namespace Go.Proofs.YtmghkacbphdakaaDoor.SpaE
open Go.RowKit
open GeoN GeoC GeoS SpaN SpaC
set_option maxRecDepth 100000 in
/-- What geo answers. -/
theorem geo (B : Nat) (b l f u : Int) (w : World) (h : Sp w B b l f u) :
    Calls Tryd.prog 26 #[.pointer (some ⟨B, 0, none⟩)] w fun e w' => e = .returned (.agg #[.int .i64 b, .int .i64 l, .int .i64 f]) ∧ Below w.heap.size w w' := by
  have HS := Lib.hid h
  clear h
  go_enter Tryd.func26, Tryd.ntmps26
  go_upto_region 1 with (fail)
  obtain ⟨W1, hW1⟩ : ∃ W1, W1 = w.alloc (.cells #[.int .i64 0, .int .i64 0, .int .i64 0] 23) := ⟨_, rfl⟩
  rw [← hW1]
  have B1 := Lib.hid (show Below w.heap.size w W1 by rw [hW1]; exact (Below.refl _ _).alloc (Nat.le_refl _) _)
  have G1 := Lib.hid (show W1.heap[w.heap.size]? = some (.cells #[.int .i64 0, .int .i64 0, .int .i64 0] 23 (0, 0)) by rw [hW1]; exact heap_alloc_new w _)
  clear hW1
  obtain ⟨k0, k1, k2, _⟩ := (HS.out.step B1.out).cells
  refine wp_region_still_tail 16 (by kernel_rfl) (by kernel_rfl) ?_
  simp only [List.take_succ_cons, List.take_zero, List.drop_succ_cons, List.drop_zero]
  change wpStill _ _ W1.drew _ _ _
  repeat still_step
  refine wpStill_nil ?_
  go_wp2_with (refine wpList_store_row rfl 23 _ _ rfl w.heap.size _ rfl rfl 23 _ G1.out infoG rfl (one3 b l f) ?_)
  refine bodyPost_ret (v := .agg #[.int .i64 b, .int .i64 l, .int .i64 f])
    (results_cell_row Tryd.results26 _ _ w.heap.size 23 _ (0, 0) _ rfl (setRow_same G1.out) Tryd.underlying23 rfl infoG) rfl
    ⟨rfl, below_setRow B1.out.drew (Nat.le_refl _) _⟩
theorem Used_none (s : Option Addr) (w : World) (h : Non w s) :
    Calls Tryd.prog 14 #[.pointer s] w fun e w' => e = .returned (.int .i64 0) ∧ w = w' := by
  have HN := Lib.hid (isNone_yes s w h)
  clear h
  go_enter Tryd.func14, Tryd.ntmps14
  go_wp2_with (go_at_call 24; refine HN.out.mono ?_; rintro e _ ⟨rfl, rfl⟩)
  go_ret
  exact ⟨rfl, rfl⟩
theorem Room_none (s : Option Addr) (w : World) (h : Non w s) :
    Calls Tryd.prog 15 #[.pointer s] w fun e w' => e = .returned (.int .i64 0) ∧ w = w' := by
  have HN := Lib.hid (isNone_yes s w h)
  clear h
  go_enter Tryd.func15, Tryd.ntmps15
  go_wp2_with (go_at_call 24; refine HN.out.mono ?_; rintro e _ ⟨rfl, rfl⟩)
  go_ret
  exact ⟨rfl, rfl⟩
theorem Used (B : Nat) (b l f u : Int) (w : World) (h : Sp w B b l f u) (hb : (b == 0) = false) :
    Calls Tryd.prog 14 #[.pointer (some ⟨B, 0, none⟩)] w fun e w' => e = .returned (.int .i64 u) ∧ w = w' := by
  have HN := Lib.hid (isNone_no B b l f u w h hb)
  obtain ⟨k0, k1, k2, k3⟩ := h.cells
  clear h hb
  go_enter Tryd.func14, Tryd.ntmps14
  go_wp2_with (go_at_call 24; refine HN.out.mono ?_; rintro e _ ⟨rfl, rfl⟩)
  go_ret
  exact ⟨rfl, rfl⟩
set_option maxRecDepth 100000 in
theorem Room (B : Nat) (b l f u : Int) (w : World) (h : Sp w B b l f u) (hb : (b == 0) = false) (hg : Bnd w) (hu : u ≤ 9223372036854775807) :
    Calls Tryd.prog 15 #[.pointer (some ⟨B, 0, none⟩)] w fun e w' => e = .returned (.int .i64 (room b l f u)) ∧ Below w.heap.size w w' := by
  have HN := Lib.hid (isNone_no B b l f u w h hb)
  have HG := Lib.hid (fun W h => geo B b l f u W h)
  have HR := Lib.hid (fun W h => GeoD.Room b l f u W h hu)
  have HS := Lib.hid h
  have HB := Lib.hid hg
  obtain ⟨k0, k1, k2, k3⟩ := h.cells
  clear h hb hg hu
  generalize room b l f u = n at *
  go_enter Tryd.func15, Tryd.ntmps15
  go_upto_region 3 with (go_at_call 24; refine HN.out.mono ?_; rintro e _ ⟨rfl, rfl⟩)
  go_region_held3 (fun w' => w'.cell? ⟨B, 3, none⟩ = some (.int .i64 u))
    (first | exact hS | exact k3)
    (first
      | (go_at_call 26; refine (HG.out _ (HS.out.step (Below.refl _ _).drew)).mono ?_; rintro e w1 ⟨rfl, hb1⟩; have B1 := Lib.hid ((Below.refl w.heap.size w).drew.trans hb1); have hS := (HS.out.step B1.out).cells.2.2.2; clear hb1)
      | (go_at_call 25; refine (HR.out _ (HB.out.step B1.out)).mono ?_; rintro e w2 ⟨rfl, hb2⟩; have B2 := Lib.hid (B1.out.trans (hb2.mono B1.out.size)); have hS := (HS.out.step B2.out).cells.2.2.2; clear hb2))
  clear hS k0 k1 k2 k3
  go_wp2
  go_ret
  exact ⟨rfl, B2.out⟩
end Go.Proofs.YtmghkacbphdakaaDoor.SpaE
