/- The chapter's example, as the statements ask for it: true in every world where the rounds' numbers lie in the program's variable. -/
import Derived.Test.YtcndlmkcnhhckaaDoorEvoA
namespace Go.Proofs.YtcndlmkcnhhckaaDoor.EvoY
open Go.RowKit
open STurn EvoN
/-- The example's key. -/
def key : List UInt8 := [48, 49, 50, 51, 52, 53, 54, 55, 56, 57, 97, 98, 99, 100, 101, 102, 48, 49, 50, 51, 52, 53, 54, 55, 56, 57, 97, 98, 99, 100, 101, 102]
theorem key_len : key.length = 32 := rfl
set_option maxRecDepth 100000 in
theorem alive (w : World) (hr : Rds w) : Calls Tryd.prog 7 #[] w fun e w' => e = .returned (.bool true) ∧ Below w.heap.size w w' := by
  have H1 := Lib.hid (fun W hr => EvoA.At key 5 5 W hr (by omega))
  have H2 := Lib.hid (fun W hr => EvoP.First key 5 W hr (by omega))
  have H3 := Lib.hid (fun W hr => EvoA.At key 5 6 W hr (by omega))
  rw [at_good key_len (by omega) (by omega) (by omega) (by omega)] at H1 H3
  rw [first_good key_len (by omega) (by omega)] at H2
  have hl := first_length key 5
  rw [show ((5 : Int) - 5).toNat = 0 from rfl] at H1
  rw [show ((6 : Int) - 5).toNat = 1 from rfl] at H3
  generalize macOf key (saidOf lSeal [5]) = z at *
  have H4 := Lib.hid (fun W hr => EvoP.Next z W hr)
  rw [made_good hl ok_next] at H4
  rw [show nextN z 0 = z from rfl] at H1
  rw [show nextN z 1 = macOf z (saidOf lNext []) from rfl] at H3
  generalize macOf z (saidOf lNext []) = y at *
  have hq : ((z.length : Int) == 32) = true := by simp [hl]
  unfold key at H1 H2 H3
  have HR := Lib.hid hr
  clear hr hl
  go_enter Tryd.func7, Tryd.ntmps7
  go_wp2_with fail
  refine (H1.out _ HR.out).mono ?_
  rintro e w1 ⟨rfl, hb1⟩
  have HB1 := Lib.hid hb1
  clear hb1 H1
  go_wp2_with fail
  refine (H2.out _ (HR.out.step HB1.out)).mono ?_
  rintro e w2 ⟨rfl, hb2⟩
  have HB2 := Lib.hid (HB1.out.trans (hb2.mono HB1.out.size))
  clear hb2 H2
  go_wp2_with fail
  refine (H3.out _ (HR.out.step HB2.out)).mono ?_
  rintro e w3 ⟨rfl, hb3⟩
  have HB3 := Lib.hid (HB2.out.trans (hb3.mono HB2.out.size))
  clear hb3 H3
  go_wp2_with fail
  refine (H4.out _ (HR.out.step HB3.out)).mono ?_
  rintro e w4 ⟨rfl, hb4⟩
  have HB4 := Lib.hid (HB3.out.trans (hb4.mono HB3.out.size))
  clear hb4 H4
  go_wp2
  go_ret
  exact ⟨rfl, HB4.out⟩
end Go.Proofs.YtcndlmkcnhhckaaDoor.EvoY
