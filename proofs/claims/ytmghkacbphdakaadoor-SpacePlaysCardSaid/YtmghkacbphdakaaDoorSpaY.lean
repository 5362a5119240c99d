/- The chapter's example: the walk of its text; and what stands while a statement runs. The condition: that the least and the most numbers lie in the program's two variables. -/
import Derived.Test.YtmghkacbphdakaaDoorSpaH
import Derived.Test.YtmghkacbphdakaaDoorSpaI
namespace Go.Proofs.YtmghkacbphdakaaDoor.SpaY
open Go.RowKit
open GeoN GeoC GeoS SpaN SpaC
/-- What stands while a statement runs: what was stays, the two variables, the space in its block. -/
structure Run (w : World) (B : Nat) (b l f u : Int) (W : World) : Prop where
  b0 : Bnd w
  bel : Below w.heap.size w W
  s : Sp W B b l f u
  own : w.heap.size ≤ B
variable {w W W' : World} {B : Nat} {b l f u v : Int}
theorem Run.bn (h : Run w B b l f u W) : Bnd W := h.b0.step h.bel
theorem Run.step (h : Run w B b l f u W) (hb : Below W.heap.size W W') : Run w B b l f u W' := ⟨h.b0, h.bel.trans (hb.mono h.bel.size), h.s.step hb, h.own⟩
theorem Run.turn (h : Run w B b l f u W) (k : Sp W' B b l f v ∧ But B W W') : Run w B b l f v W' := ⟨h.b0, h.bel.trans (k.2.below h.own h.bel.size), k.1, h.own⟩
set_option maxRecDepth 100000 in
theorem alive (w : World) (hb : Bnd w) : Calls Tryd.prog 6 #[] w fun e w' => e = .returned (.bool true) ∧ Below w.heap.size w w' := by
  have HN := Lib.hid (SpaI.New_yes 8 1 0 1 w hb (by decide))
  have H1 := Lib.hid (fun B W (h : Run w B 8 1 0 1 W) => SpaH.Take_yes B 8 1 0 1 W h.s rfl h.bn (by decide) (by decide) (by decide))
  have H2 := Lib.hid (fun B W (h : Run w B 8 1 0 2 W) => SpaH.Take_yes B 8 1 0 2 W h.s rfl h.bn (by decide) (by decide) (by decide))
  have H3 := Lib.hid (fun B W (h : Run w B 8 1 0 3 W) => SpaH.Take_no B 8 1 0 3 W h.s rfl h.bn (by decide) (by decide))
  have H4 := Lib.hid (fun B W (h : Run w B 8 1 0 3 W) => SpaH.Close_yes B 8 1 0 3 W h.s rfl h.bn (by decide) (by decide) (by decide))
  have H5 := Lib.hid (fun B W (h : Run w B 8 1 0 4 W) => SpaH.Close_no B 8 1 0 4 W h.s rfl h.bn (by decide))
  have H6 := Lib.hid (fun B W (h : Run w B 8 1 0 4 W) => SpaF.Open B 8 1 0 4 W h.s rfl h.bn)
  rw [show opened 8 1 0 4 = false from by decide] at H6
  have HB := Lib.hid hb
  clear hb
  go_enter Tryd.func6, Tryd.ntmps6
  go_upto_region 2 with (go_at_call 7; refine HN.out.mono ?_; rintro e w1 ⟨B, hB, rfl, hs, hbe⟩; have R := Lib.hid (Run.mk (B := B) HB.out hbe hs hB); clear hB hs hbe HN)
  go_upto_region 3 with (go_at_call 10; refine (H1.out B _ R.out).mono ?_; rintro e w2 ⟨rfl, k⟩; replace R := Lib.hid (R.out.turn k); clear k H1)
  go_upto_region 4 with (go_at_call 10; refine (H2.out B _ R.out).mono ?_; rintro e w3 ⟨rfl, k⟩; replace R := Lib.hid (R.out.turn k); clear k H2)
  go_upto_region 5 with (go_at_call 10; refine (H3.out B _ R.out).mono ?_; rintro e w4 ⟨rfl, k⟩; replace R := Lib.hid (R.out.step k); clear k H3)
  go_upto_region 6 with (go_at_call 12; refine (H4.out B _ R.out).mono ?_; rintro e w5 ⟨rfl, k⟩; replace R := Lib.hid (R.out.turn k); clear k H4)
  go_upto_region 7 with (go_at_call 12; refine (H5.out B _ R.out).mono ?_; rintro e w6 ⟨rfl, k⟩; replace R := Lib.hid (R.out.step k); clear k H5)
  go_wp2_with (go_at_call 16; refine (H6.out B _ R.out).mono ?_; rintro e w7 ⟨rfl, k⟩; replace R := Lib.hid (R.out.step k); clear k)
  go_ret
  exact ⟨rfl, R.out.bel⟩
end Go.Proofs.YtmghkacbphdakaaDoor.SpaY
