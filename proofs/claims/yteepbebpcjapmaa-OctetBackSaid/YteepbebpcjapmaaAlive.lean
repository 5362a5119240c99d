/- The chapter's examples, as the statements ask for them: true in every world. -/
import Derived.Test.YteepbebpcjapmaaOText
import Derived.Test.YteepbebpcjapmaaOGet
namespace Go.Proofs.Yteepbebpcjapmaa.Alive
open Go.RowKit
theorem put258 (w : World) : Calls Try.prog 8 #[.int .i64 258, .int .i64 3] w fun e w' => e = .returned (.tuple #[.string ⟨#[0, 1, 2]⟩, .int .i64 0]) ∧ Below w.heap.size w w' := by
  have := OPut.any 258 3 w
  rw [show put 258 3 = ([0, 1, 2], 0) from by decide] at this
  exact this
theorem get256 (w : World) : Calls Try.prog 10 #[.string ⟨#[1, 0]⟩] w fun e w' => e = .returned (.tuple #[.int .i64 256, .int .i64 0]) ∧ w = w' := by
  have := OGet.any ⟨#[1, 0]⟩ w
  rw [show get ((⟨#[1, 0]⟩ : ByteArray).data.toList) = (256, 0) from by decide] at this
  exact this
theorem textab (w : World) : Calls Try.prog 22 #[.string ⟨#[97, 98]⟩] w fun e w' => e = .returned (.string ⟨#[0, 0, 0, 2, 97, 98]⟩) ∧ Below w.heap.size w w' := by
  have := OText.any ⟨#[97, 98]⟩ w (by decide)
  rw [show text ⟨#[97, 98]⟩ = ⟨#[0, 0, 0, 2, 97, 98]⟩ from by decide +kernel] at this
  exact this
theorem any (w : World) : Calls Try.prog 12 #[] w fun e w' => e = .returned (.bool true) ∧ Below w.heap.size w w' := by
  go_enter Try.func12, Try.ntmps12
  go_wp2_with (first
    | (go_at_call 8; refine (put258 _).mono ?_; rintro e w1 ⟨rfl, hb1⟩)
    | (go_at_call 10; refine (get256 _).mono ?_; rintro e w2 ⟨rfl, rfl⟩)
    | (go_at_call 22; refine (textab _).mono ?_; rintro e w3 ⟨rfl, hb3⟩))
  go_ret
  exact ⟨rfl, hb1.trans (hb3.mono hb1.size)⟩
end Go.Proofs.Yteepbebpcjapmaa.Alive
