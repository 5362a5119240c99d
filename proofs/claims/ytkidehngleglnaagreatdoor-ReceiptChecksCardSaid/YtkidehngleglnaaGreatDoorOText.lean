/- What octet.Text answers: the walk of its text, for texts that fit a Go string. -/
import Derived.Test.YtkidehngleglnaaGreatDoorOPut
namespace Go.Proofs.YtkidehngleglnaaGreatDoor.OText
open Go.RowKit
theorem any (s : ByteArray) (w : World) (h : s.size ≤ 281474976710656) :
    Calls Tryz.prog 44 #[.string s] w fun e w' => e = .returned (.string (text s)) ∧ Below w.heap.size w w' := by
  have hp : ∀ W, Calls Tryz.prog 21 #[.int .i64 ((s.size : Int) % 4294967296), .int .i64 4] W fun e w' => e = .returned (.tuple #[.string ⟨(be 4 s.size).toArray⟩, .int .i64 0]) ∧ Below W.heap.size W w' := by
    intro W
    have := OPut.any ((s.size : Int) % 4294967296) 4 W
    rw [put_good _ _ (by omega) (by omega) (by omega) (by simp only [Int.reduceToNat, Int.reducePow]; omega)] at this
    have e : be (Int.toNat 4) ((s.size : Int) % 4294967296).toNat = be 4 s.size := be_four s.size
    rw [e] at this
    exact this
  have Hp := Lib.hid hp
  have hl := be_length 4 s.size
  have Hl : (be 4 s.size).length ≤ 4 := by omega
  clear hp hl
  go_enter Tryz.func44, Tryz.ntmps44
  go_wp2_with (go_at_call 21; refine (Hp.out _).mono ?_; rintro e w' ⟨rfl, hb⟩)
  go_ret
  exact ⟨rfl, hb⟩
end Go.Proofs.YtkidehngleglnaaGreatDoor.OText
