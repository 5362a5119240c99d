/- What keepsakeref01.Text answers: the walk of its text, for texts below 2^32 bytes. -/
import Derived.Test.YtkidehngleglnaaGreatDoorLRef
namespace Go.Proofs.YtkidehngleglnaaGreatDoor.RText
open Go.RowKit
theorem any (s : ByteArray) (w : World) (h : s.size < 4294967296) :
    Calls Tryz.prog 46 #[.string s] w fun e w' => e = .returned (.string (text s)) ∧ Below w.heap.size w w' := by
  have hp : ∀ W, Calls Tryz.prog 23 #[.int .i64 (s.size : Int), .int .i64 4] W fun e w' => e = .returned (.tuple #[.string ⟨(be 4 s.size).toArray⟩, .int .i64 0]) ∧ Below W.heap.size W w' := by
    intro W
    have := RPut.any (s.size : Int) 4 W (by omega)
    rw [put_good _ _ (by omega) (by omega) (by omega) (by simp only [Int.reduceToNat, Int.reducePow]; omega)] at this
    exact this
  have Hp := Lib.hid hp
  have hl := be_length 4 s.size
  have Hl : (be 4 s.size).length ≤ 4 := by omega
  clear hp hl
  go_enter Tryz.func46, Tryz.ntmps46
  go_wp2_with (go_at_call 23; refine (Hp.out _).mono ?_; rintro e w' ⟨rfl, hb⟩)
  go_ret
  exact ⟨rfl, hb⟩
end Go.Proofs.YtkidehngleglnaaGreatDoor.RText
