/- The chapter's example: the walk of its text. The condition: that the rounds' numbers lie in the program's variable. -/
import Derived.Test.YteinbhhocnjjoaaDoorSloV
namespace Go.Proofs.YteinbhhocnjjoaaDoor.SloY
open Go.RowKit
open SloN SloC STurn
/-- What stands while a statement runs: what was stays, and the variable. -/
structure Sx (w W : World) : Prop where
  bel : Below w.heap.size w W
  gl : Rds W
theorem Sx.step {w W W' : World} (h : Sx w W) (hb : Below W.heap.size W W') : Sx w W' := ⟨h.bel.trans (hb.mono h.bel.size), h.gl.step hb⟩
theorem pick_1 {k : List UInt8} (hk : k.length = 32) : pick SloN.empty (blk 1 k) 1 = (k, 0) := by
  rw [pick_odd (by decide) (by decide)]
  exact pick1_blk (by decide) hk
theorem pick_0 {k : List UInt8} : pick SloN.empty (blk 1 k) 0 = ([], 7) := by
  rw [pick_even (by decide) (by decide)]
  exact pick1_empty 0
theorem alive (w : World) (hr : Rds w) :
    Calls Tryd.prog 7 #[] w fun r w' => r = .returned (.bool true) ∧ Below w.heap.size w w' := by
  have SS : Hid (Sx w w) := Lib.hid ⟨Below.refl _ _, hr⟩
  have HP := Lib.hid (fun W h => SloP.Put 1 [48, 49, 50, 51, 52, 53, 54, 55, 56, 57, 97, 98, 99, 100, 101, 102, 48, 49, 50, 51, 52, 53, 54, 55, 56, 57, 97, 98, 99, 100, 101, 102] W h)
  rw [SloN.put_yes (by decide) rfl] at HP
  have HE := Lib.hid (fun W => SloP.Empty W)
  have H1 := Lib.hid (fun W h => SloV.Pick SloN.empty (blk 1 [48, 49, 50, 51, 52, 53, 54, 55, 56, 57, 97, 98, 99, 100, 101, 102, 48, 49, 50, 51, 52, 53, 54, 55, 56, 57, 97, 98, 99, 100, 101, 102]) 1 W h)
  rw [pick_1 rfl] at H1
  have H0 := Lib.hid (fun W h => SloV.Pick SloN.empty (blk 1 [48, 49, 50, 51, 52, 53, 54, 55, 56, 57, 97, 98, 99, 100, 101, 102, 48, 49, 50, 51, 52, 53, 54, 55, 56, 57, 97, 98, 99, 100, 101, 102]) 0 W h)
  rw [pick_0] at H0
  generalize blk 1 [48, 49, 50, 51, 52, 53, 54, 55, 56, 57, 97, 98, 99, 100, 101, 102, 48, 49, 50, 51, 52, 53, 54, 55, 56, 57, 97, 98, 99, 100, 101, 102] = bk at *
  generalize SloN.empty = z at *
  clear hr
  go_enter Tryd.func7, Tryd.ntmps7
  go_upto_region 1 with (fail)
  go_upto_region 2 with (go_at_call 8; refine (HP.out _ SS.out.gl).mono ?_; rintro r w1 ⟨rfl, hb⟩; replace SS := Lib.hid (SS.out.step hb); clear hb)
  clear HP
  go_upto_region 3 with (first
    | (go_at_call 12; refine (HE.out _).mono ?_; rintro r w2 ⟨rfl, hb⟩; replace SS := Lib.hid (SS.out.step hb); clear hb)
    | (go_at_call 14; refine (H1.out _ SS.out.gl).mono ?_; rintro r w3 ⟨rfl, hb⟩; replace SS := Lib.hid (SS.out.step hb); clear hb))
  clear H1
  go_wp2_with (first
    | (go_at_call 12; refine (HE.out _).mono ?_; rintro r w4 ⟨rfl, hb⟩; replace SS := Lib.hid (SS.out.step hb); clear hb)
    | (go_at_call 14; refine (H0.out _ SS.out.gl).mono ?_; rintro r w5 ⟨rfl, hb⟩; replace SS := Lib.hid (SS.out.step hb); clear hb))
  go_ret
  exact ⟨rfl, SS.out.bel⟩
end Go.Proofs.YteinbhhocnjjoaaDoor.SloY
