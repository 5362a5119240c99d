/- The chapter's examples (alive) and the statements' number: the walks of their texts. -/
import Derived.Test.YtcnmhldcgmfaeaaSCho
import Derived.Test.YtcnmhldcgmfaeaaSLes
namespace Go.Proofs.Ytcnmhldcgmfaeaa.SSame
open Go.RowKit
open SamN
theorem Equal (a b : List UInt8) (w : World) (hm : a.length ≤ maxLen) :
    Calls Try.prog 9 #[.string ⟨a.toArray⟩, .string ⟨b.toArray⟩] w fun e w' => e = .returned (.bool (a == b)) ∧ Below w.heap.size w w' := by
  by_cases h : a = b
  · rw [show (a == b) = true from by rw [beq_iff_eq]; exact h]
    exact SBit.Equal_yes a b w h hm
  · rw [show (a == b) = false from by rw [beq_eq_false_iff_ne]; exact h]
    exact SBit.Equal_no a b w h hm
theorem alive (w : World) : Calls Try.prog 6 #[] w fun e w' => e = .returned (.bool true) ∧ Below w.heap.size w w' := by
  have H1 := Lib.hid (fun W => SBit.Bit [97, 98] [97, 98] W (by simp [maxLen]))
  have H2 := Lib.hid (fun W => SCho.Choose 0 [97, 98] [99, 100] W (by simp))
  have H3 := Lib.hid (fun W => SLes.Less [97, 98] [97, 99] W (by simp [maxLen]))
  have H4 := Lib.hid (fun W => SBit.Any [0, 1] W (by simp [maxLen]))
  rw [show bit [97, 98] [97, 98] = 1 from rfl] at H1
  rw [show SCho.chosen 0 [97, 98] [99, 100] = [99, 100] from by decide +kernel] at H2
  rw [show less [97, 98] [97, 99] = 1 from by decide +kernel] at H3
  rw [show any [0, 1] = 1 from by decide +kernel] at H4
  go_enter Try.func6, Try.ntmps6
  go_wp2_with fail
  refine (H1.out _).mono ?_
  rintro e w1 ⟨rfl, hb1⟩
  have B1 := Lib.hid hb1
  clear hb1
  go_wp2_with fail
  refine (H2.out _).mono ?_
  rintro e w2 ⟨rfl, hb2⟩
  have B2 := Lib.hid (B1.out.trans (hb2.mono B1.out.size))
  clear hb2
  go_wp2_with fail
  refine (H3.out _).mono ?_
  rintro e w3 ⟨rfl, hb3⟩
  have B3 := Lib.hid (B2.out.trans (hb3.mono B2.out.size))
  clear hb3
  go_wp2_with fail
  refine (H4.out _).mono ?_
  rintro e w4 ⟨rfl, hb4⟩
  have B4 := Lib.hid (B3.out.trans (hb4.mono B3.out.size))
  clear hb4
  go_wp2
  go_ret
  exact ⟨rfl, B4.out⟩
theorem number_t (w : World) : Calls Try.prog 8 #[.bool true] w fun e w' => e = .returned (.int .i64 1) ∧ w = w' := by
  go_enter Try.func8, Try.ntmps8
  go_wp2
  go_ret
  exact ⟨rfl, rfl⟩
theorem number_f (w : World) : Calls Try.prog 8 #[.bool false] w fun e w' => e = .returned (.int .i64 0) ∧ w = w' := by
  go_enter Try.func8, Try.ntmps8
  go_wp2
  go_ret
  exact ⟨rfl, rfl⟩
end Go.Proofs.Ytcnmhldcgmfaeaa.SSame
