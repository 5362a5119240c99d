/- What octet.Fill answers: the walk of its text; strings.Repeat by the library's own contract. -/
import Derived.Test.YtkidehngleglnaaGreatDoorLOct
import Derived.Test.YtkidehngleglnaaGreatDoorRows
import Derived.Test.YtkidehngleglnaaGreatDoorMem
import Derived.Test.YtkidehngleglnaaGreatDoorShelf
namespace Go.Proofs.YtkidehngleglnaaGreatDoor.OFill
open Go.RowKit
theorem repeated (k : Nat) (w : World) (h : k ≤ 65536) :
    Calls Tryz.prog 65 #[.string ⟨#[0]⟩, .int .i64 k] w fun e w' => e = .returned (.string ⟨(List.replicate k 0).toArray⟩) ∧ Below w.heap.size w w' := by
  have := Tryz.strings_Repeat ⟨#[0]⟩ k w (by omega) (by show 1 * k ≤ _; omega)
  have e : Lib.repeatL ((⟨#[0]⟩ : ByteArray).data.toList) k = List.replicate k 0 := by
    have := Lib.repeatL_replicate 0 1 k
    rw [Nat.mul_one] at this
    exact this
  rw [e] at this
  exact this
end Go.Proofs.YtkidehngleglnaaGreatDoor.OFill
