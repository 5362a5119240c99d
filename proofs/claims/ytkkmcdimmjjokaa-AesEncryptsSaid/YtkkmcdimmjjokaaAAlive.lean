/- The chapter's example of aes, as the statements ask for it: true in every world. -/
import Derived.Test.YtkkmcdimmjjokaaAEnc
namespace Go.Proofs.Ytkkmcdimmjjokaa.AAlive
open Go.RowKit
open AesM AEnc
theorem enc_ex (w : World) : Calls Try.prog 16 #[.string ⟨#[0, 1, 2, 3, 4, 5, 6, 7, 8, 9, 10, 11, 12, 13, 14, 15]⟩, .string ⟨#[0, 17, 34, 51, 68, 85, 102, 119, 136, 153, 170, 187, 204, 221, 238, 255]⟩] w
    fun e w' => e = .returned (.tuple #[.string ⟨#[105, 196, 224, 216, 106, 123, 4, 48, 216, 205, 183, 128, 112, 180, 197, 90]⟩, .int .i64 0]) ∧ Below w.heap.size w w' := by
  have h := Enc [0, 1, 2, 3, 4, 5, 6, 7, 8, 9, 10, 11, 12, 13, 14, 15] [0, 17, 34, 51, 68, 85, 102, 119, 136, 153, 170, 187, 204, 221, 238, 255] w
  rw [enc, if_pos ⟨rfl, rfl⟩, example_] at h
  exact h
theorem any (w : World) : Calls Try.prog 14 #[] w fun e w' => e = .returned (.bool true) ∧ Below w.heap.size w w' := by
  go_enter Try.func14, Try.ntmps14
  go_wp2_with (go_at_call 16; refine (enc_ex _).mono ?_; rintro e w1 ⟨rfl, hb1⟩)
  go_ret
  exact ⟨rfl, hb1⟩
end Go.Proofs.Ytkkmcdimmjjokaa.AAlive
