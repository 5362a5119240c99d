/- The chapter's example, as the statements ask for it: true in every world where the rounds' numbers lie in the program's variable. -/
import Derived.Test.YtjnichfbnididaaDoorHPart
namespace Go.Proofs.YtjnichfbnididaaDoor.HAlive
open Go.RowKit
open STurn
theorem any (w : World) (hr : Rds w) : Calls Tryd.prog 7 #[] w fun e w' => e = .returned (.bool true) ∧ Below w.heap.size w w' := by
  have hM := HPart.Mac foxKey fox w hr (by show 3 ≤ _; omega) (by show 43 ≤ _; omega)
  have h32 := mac_length foxKey fox
  have h8 := mac_fox
  rw [show foxKey = [0x6b, 0x65, 0x79] from rfl, show fox = [0x54, 0x68, 0x65, 0x20, 0x71, 0x75, 0x69, 0x63, 0x6b, 0x20, 0x62, 0x72, 0x6f, 0x77, 0x6e, 0x20, 0x66, 0x6f, 0x78, 0x20, 0x6a, 0x75, 0x6d, 0x70, 0x73, 0x20, 0x6f, 0x76, 0x65, 0x72, 0x20, 0x74, 0x68, 0x65, 0x20, 0x6c, 0x61, 0x7a, 0x79, 0x20, 0x64, 0x6f, 0x67] from rfl] at hM h32 h8
  generalize macOf _ _ = t at *
  have HM := Lib.hid hM
  clear hM hr
  go_enter Tryd.func7, Tryd.ntmps7
  go_wp2_with fail
  refine HM.out.mono ?_
  rintro e w1 ⟨rfl, hb1⟩
  have HB1 := Lib.hid hb1
  clear hb1
  go_wp2_with fail
  have hb : (((⟨t.toArray⟩ : ByteArray).extract 0 8).toList == [247, 188, 131, 244, 48, 83, 132, 36]) = true := by
    rw [ByteArray.extract_mk, List.drop_zero, Nat.sub_zero, h8]
    first | rfl | decide +kernel | simp
  rw [hb]
  go_ret
  exact ⟨rfl, HB1.out⟩
end Go.Proofs.YtjnichfbnididaaDoor.HAlive
