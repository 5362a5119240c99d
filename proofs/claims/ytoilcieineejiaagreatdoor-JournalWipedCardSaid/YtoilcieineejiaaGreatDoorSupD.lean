/- super.widths and super.Next, super.Check: the walks of their texts. The condition: that the least and the most numbers lie in the program's two variables. -/
import Derived.Test.YtoilcieineejiaaGreatDoorSupC
import Derived.Test.YtoilcieineejiaaGreatDoorLGeo
import Derived.Laws.ResultCell
import Derived.Deep.RegionHeld3
import Derived.Deep.QuietTactic
import Derived.BigQuiet
namespace Go.Proofs.YtoilcieineejiaaGreatDoor.SupD
open Go.RowKit
open GeoN GeoC GeoS SupN SupC
/-- What super.widths answers: a row of its own. -/
theorem widths (w : World) :
    Calls Tryz.prog 120 #[] w fun r w' => r = .returned (.slice (some ⟨w.heap.size, 0, none⟩) 4 4) ∧ w'.heap[w.heap.size]? = some (.cells #[.int .i64 8, .int .i64 4, .int .i64 4, .int .i64 8] 3 (0, 0)) ∧ Below w.heap.size w w' := by
  go_enter Tryz.func120, Tryz.ntmps120
  go_wp2_with fail
  go_ret
  refine ⟨rfl, ?_, ?_⟩
  · exact heap_alloc_new w _
  · exact (Below.refl _ _).alloc (Nat.le_refl _) _
set_option maxRecDepth 100000 in
set_option maxHeartbeats 2000000 in
/-- What super.Check answers. -/
theorem Check (g t e k b l f : Int) (w : World) (hb : Bnd w) :
    Calls Tryz.prog 118 #[.agg #[.int .i64 g, .int .i64 t, .int .i64 e, .int .i64 k, .int .i64 b, .int .i64 l, .int .i64 f]] w fun r w' => r = .returned (.int .i64 (check ⟨g, t, e, k, b, l, f⟩)) ∧ Below w.heap.size w w' := by
  obtain ⟨W1, hW1⟩ : ∃ W1, W1 = w.alloc (.cells #[.int .i64 g, .int .i64 t, .int .i64 e, .int .i64 k, .int .i64 b, .int .i64 l, .int .i64 f] 53) := ⟨_, rfl⟩
  have SS : Hid (Ws w g t e k b l f W1) := Lib.hid (by rw [hW1]; exact st_new g t e k b l f hb)
  obtain ⟨k0, k1, k2, k3, k4, k5, k6⟩ := SS.out.k.cells
  go_enter Tryz.func118, Tryz.ntmps118
  go_upto_region 1 with (fail)
  rw [← hW1]
  clear hW1 hb
  have HN := Lib.hid (fun W h => GeoD.Check b l f W h)
  have HD := Lib.hid (fun W h => GeoD.Data b l f W h)
  by_cases hr : right b l f
  · rw [GeoN.check_yes hr] at HN
    rw [data_yes hr] at HD
    have hr2 : 8 ≤ b ∧ b ≤ 1024 ∧ 0 ≤ f ∧ f ≤ 4294967295 := ⟨hr.1, hr.2.1, hr.2.2.2.2.1, hr.2.2.2.2.2⟩
    have HR := Lib.hid hr
    clear hr
    go_upto_region 2 with (first
      | (go_at_call 34; refine (HN.out _ SS.out.bn).mono ?_; rintro r w2 ⟨rfl, hb2⟩; replace SS := Lib.hid (SS.out.step hb2); clear hb2 k0 k1 k2 k3 k4 k5 k6; obtain ⟨k0, k1, k2, k3, k4, k5, k6⟩ := SS.out.k.cells))
    by_cases h1 : 1 ≤ g
    · by_cases h2 : g ≤ 1152921504606846976
      · go_upto_region 3 with (fail)
        by_cases h3 : 0 ≤ t
        · replace SS := Lib.hid SS.out.drew
          have hS := SS.out.k.cells
          have hg : decide (t < 0) = false := decide_eq_false (by omega)
          go_region_held3 (fun w' => w'.cell? ⟨w.heap.size, 0, none⟩ = some (.int .i64 g) ∧ w'.cell? ⟨w.heap.size, 1, none⟩ = some (.int .i64 t) ∧ w'.cell? ⟨w.heap.size, 2, none⟩ = some (.int .i64 e) ∧ w'.cell? ⟨w.heap.size, 3, none⟩ = some (.int .i64 k) ∧ w'.cell? ⟨w.heap.size, 4, none⟩ = some (.int .i64 b) ∧ w'.cell? ⟨w.heap.size, 5, none⟩ = some (.int .i64 l) ∧ w'.cell? ⟨w.heap.size, 6, none⟩ = some (.int .i64 f))
            (exact hS)
            (first | (go_at_call 91; refine (HD.out _ SS.out.bn).mono ?_; rintro r w3 ⟨rfl, hb3⟩; replace SS := Lib.hid (SS.out.step hb3); replace hS := SS.out.k.cells; clear hb3))
          obtain ⟨k0, k1, k2, k3, k4, k5, k6⟩ := hS
          clear hg
          by_cases h4 : t ≤ b - 4
          · by_cases h5 : f ≤ e
            · by_cases h6 : e ≤ 4294967295
              · by_cases h7 : 0 ≤ k
                · by_cases h8 : k ≤ 1099511627776
                  · have HX := Lib.hid (check_yes (x := ⟨g, t, e, k, b, l, f⟩) ⟨HR.out, ⟨h1, h2⟩, ⟨h3, h4⟩, ⟨h5, h6⟩, h7, h8⟩)
                    go_wp2_with fail
                    go_ret
                    exact ⟨by rw [HX.out] <;> rfl, SS.out.bel⟩
                  · have HX := Lib.hid (check_no (x := ⟨g, t, e, k, b, l, f⟩) (fun hh => h8 hh.2.2.2.2.2))
                    go_wp2_with fail
                    go_ret
                    exact ⟨by rw [HX.out] <;> rfl, SS.out.bel⟩
                · have HX := Lib.hid (check_no (x := ⟨g, t, e, k, b, l, f⟩) (fun hh => h7 hh.2.2.2.2.1))
                  go_wp2_with fail
                  go_ret
                  exact ⟨by rw [HX.out] <;> rfl, SS.out.bel⟩
              · have HX := Lib.hid (check_no (x := ⟨g, t, e, k, b, l, f⟩) (fun hh => h6 hh.2.2.2.1.2))
                go_wp2_with fail
                go_ret
                exact ⟨by rw [HX.out] <;> rfl, SS.out.bel⟩
            · have HX := Lib.hid (check_no (x := ⟨g, t, e, k, b, l, f⟩) (fun hh => h5 hh.2.2.2.1.1))
              go_wp2_with fail
              go_ret
              exact ⟨by rw [HX.out] <;> rfl, SS.out.bel⟩
          · have HX := Lib.hid (check_no (x := ⟨g, t, e, k, b, l, f⟩) (fun hh => h4 hh.2.2.1.2))
            go_wp2_with fail
            go_ret
            exact ⟨by rw [HX.out] <;> rfl, SS.out.bel⟩
        · have hg : decide (t < 0) = true := decide_eq_true (by omega)
          have HX := Lib.hid (check_no (x := ⟨g, t, e, k, b, l, f⟩) (fun hh => h3 hh.2.2.1.1))
          go_quiet (fail)
          go_wp2_with fail
          go_ret
          exact ⟨by rw [HX.out] <;> rfl, SS.out.bel.trans (below_drewN _ _)⟩
      · have HX := Lib.hid (check_no (x := ⟨g, t, e, k, b, l, f⟩) (fun hh => h2 hh.2.1.2))
        go_wp2_with fail
        go_ret
        exact ⟨by rw [HX.out] <;> rfl, SS.out.bel⟩
    · have HX := Lib.hid (check_no (x := ⟨g, t, e, k, b, l, f⟩) (fun hh => h1 hh.2.1.1))
      go_wp2_with fail
      go_ret
      exact ⟨by rw [HX.out] <;> rfl, SS.out.bel⟩
  · rw [GeoN.check_no hr] at HN
    have HX := Lib.hid (check_no (x := ⟨g, t, e, k, b, l, f⟩) (fun hh => hr hh.1))
    clear hr
    go_wp2_with (first
      | (go_at_call 34; refine (HN.out _ SS.out.bn).mono ?_; rintro r w2 ⟨rfl, hb2⟩; replace SS := Lib.hid (SS.out.step hb2); clear hb2))
    go_ret
    exact ⟨by rw [HX.out] <;> rfl, SS.out.bel⟩
end Go.Proofs.YtoilcieineejiaaGreatDoor.SupD
