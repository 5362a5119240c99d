/- New: the walk of its text. The condition: that the least and the most numbers lie in the program's two variables. -/
import Derived.Test.YtmghkacbphdakaaDoorSpaC
import Derived.Test.YtmghkacbphdakaaDoorGeoD
namespace Go.Proofs.YtmghkacbphdakaaDoor.SpaI
open Go.RowKit
open GeoN GeoC GeoS SpaN SpaC
/-- A space of the call's own. -/
def Made (w : World) (b l f u : Int) (e : Ending) (w' : World) : Prop := ∃ B, w.heap.size ≤ B ∧ e = .returned (.tuple #[.pointer (some ⟨B, 0, none⟩), .int .i64 0]) ∧ Sp w' B b l f u ∧ Below w.heap.size w w'
set_option maxRecDepth 100000 in
theorem New_no (b l f u : Int) (w : World) (hg : Bnd w) (h : ¬ good b l f u) :
    Calls Tryd.prog 7 #[.agg #[.int .i64 b, .int .i64 l, .int .i64 f], .int .i64 u] w fun e w' => e = .returned (.tuple #[.pointer none, .int .i64 2]) ∧ Below w.heap.size w w' := by
  obtain ⟨W1, hW1⟩ : ∃ W1, W1 = w.alloc (.cells #[.int .i64 b, .int .i64 l, .int .i64 f] 23) := ⟨_, rfl⟩
  have S1 := Lib.hid (show St w b l f W1 by rw [hW1]; exact st_new b l f hg)
  have HC := Lib.hid (fun W h => GeoD.Check b l f W h)
  have HD := Lib.hid (fun W h => GeoD.Data b l f W h)
  obtain ⟨k0, k1, k2⟩ := S1.out.cells
  by_cases hr : right b l f
  · rw [check_yes hr] at HC
    rw [data_yes hr] at HD
    have hb := hr.1
    have hb2 := hr.2.1
    by_cases h0 : u < 0
    · clear h hg hr
      go_enter Tryd.func7, Tryd.ntmps7
      go_upto_region 1 with (fail)
      rw [← hW1]
      clear hW1
      go_wp2_with (go_at_call 17; refine (HC.out _ S1.out.bn).mono ?_; rintro e w2 ⟨rfl, hb2⟩; replace S1 := Lib.hid (S1.out.step hb2); clear hb2)
      go_ret2
      exact ⟨rfl, S1.out.bel⟩
    · have h1 : b - 4 < u := by
        by_cases hh : b - 4 < u
        · exact hh
        · exact absurd ⟨hr, by omega, by omega⟩ h
      clear h hg hr
      go_enter Tryd.func7, Tryd.ntmps7
      go_upto_region 1 with (fail)
      rw [← hW1]
      clear hW1
      go_wp2_with (first
        | (go_at_call 17; refine (HC.out _ S1.out.bn).mono ?_; rintro e w2 ⟨rfl, hb2⟩; clear k0 k1 k2; replace S1 := Lib.hid (S1.out.step hb2); obtain ⟨k0, k1, k2⟩ := S1.out.cells; clear hb2)
        | (go_at_call 18; refine (HD.out _ S1.out.bn).mono ?_; rintro e w3 ⟨rfl, hb3⟩; replace S1 := Lib.hid (S1.out.step hb3); clear hb3))
      go_ret2
      exact ⟨rfl, S1.out.bel⟩
  · rw [check_no hr] at HC
    clear h hg hr
    go_enter Tryd.func7, Tryd.ntmps7
    go_upto_region 1 with (fail)
    rw [← hW1]
    clear hW1
    go_wp2_with (go_at_call 17; refine (HC.out _ S1.out.bn).mono ?_; rintro e w2 ⟨rfl, hb2⟩; replace S1 := Lib.hid (S1.out.step hb2); clear hb2)
    go_ret2
    exact ⟨rfl, S1.out.bel⟩
set_option maxRecDepth 100000 in
theorem New_yes (b l f u : Int) (w : World) (hg : Bnd w) (h : good b l f u) :
    Calls Tryd.prog 7 #[.agg #[.int .i64 b, .int .i64 l, .int .i64 f], .int .i64 u] w (Made w b l f u) := by
  obtain ⟨W1, hW1⟩ : ∃ W1, W1 = w.alloc (.cells #[.int .i64 b, .int .i64 l, .int .i64 f] 23) := ⟨_, rfl⟩
  have S1 := Lib.hid (show St w b l f W1 by rw [hW1]; exact st_new b l f hg)
  have HC := Lib.hid (fun W h => GeoD.Check b l f W h)
  have HD := Lib.hid (fun W h => GeoD.Data b l f W h)
  obtain ⟨k0, k1, k2⟩ := S1.out.cells
  rw [check_yes h.1] at HC
  rw [data_yes h.1] at HD
  have hb := h.b
  have h0 : 0 ≤ u := h.2.1
  have h1 : u ≤ b - 4 := h.2.2
  obtain ⟨hb0, hb1⟩ := hb
  clear h hg
  go_enter Tryd.func7, Tryd.ntmps7
  go_upto_region 1 with (fail)
  rw [← hW1]
  clear hW1
  go_wp2_with (first
    | (go_at_call 17; refine (HC.out _ S1.out.bn).mono ?_; rintro e w2 ⟨rfl, hb2⟩; clear k0 k1 k2; replace S1 := Lib.hid (S1.out.step hb2); obtain ⟨k0, k1, k2⟩ := S1.out.cells; clear hb2)
    | (go_at_call 18; refine (HD.out _ S1.out.bn).mono ?_; rintro e w3 ⟨rfl, hb3⟩; clear k0 k1 k2; replace S1 := Lib.hid (S1.out.step hb3); obtain ⟨k0, k1, k2⟩ := S1.out.cells; clear hb3))
  go_ret2
  exact ⟨_, S1.out.bel.size, rfl, heap_alloc_new _ _, S1.out.bel.alloc S1.out.bel.size _⟩
end Go.Proofs.YtmghkacbphdakaaDoor.SpaI
