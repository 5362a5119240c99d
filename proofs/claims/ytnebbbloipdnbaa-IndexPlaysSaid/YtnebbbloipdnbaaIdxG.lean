/- newest, of, places and their closures: the walks of their texts. The condition: that the row stands in its order. -/
import Derived.Test.YtnebbbloipdnbaaIdxF
namespace Go.Proofs.Ytnebbbloipdnbaa.IdxG
open Go.RowKit
open IdxN IdxM IdxC IdxL IdxS IdxD IdxF
theorem soon_eq (lba ep : Int) (v : V) : soon lba ep v = (decide (v.1 < lba) || (decide (v.1 = lba) && decide (v.2.1 ≤ ep))) := by
  unfold soon
  rw [← Bool.decide_and, ← Bool.decide_or]
theorem soonC (L E : Nat) (lba ep : Int) (u : V) (w : World) (hL : w.cell? ⟨L, 0, none⟩ = some (.int .i64 lba)) (hE : w.cell? ⟨E, 0, none⟩ = some (.int .i64 ep)) :
    Calls Try.prog 44 #[.agg #[.int .i64 u.1, .int .i64 u.2.1, .int .i64 u.2.2], .pointer (some ⟨L, 0, none⟩), .pointer (some ⟨E, 0, none⟩)] w fun e w' => e = .returned (.bool (soon lba ep u)) ∧ Below w.heap.size w w' := by
  have HE := Lib.hid (soon_eq lba ep u)
  have HX := Lib.hid (box_new w u)
  have HB := Lib.hid (below_new w (.cells #[.int .i64 u.1, .int .i64 u.2.1, .int .i64 u.2.2] 27))
  have m0 : (w.alloc (.cells #[.int .i64 u.1, .int .i64 u.2.1, .int .i64 u.2.2] 27)).cell? ⟨L, 0, none⟩ = some (.int .i64 lba) := (HB.out.cell (p := ⟨L, 0, none⟩) (World.block_lt_of_cell? w _ hL)).trans hL
  have m1 : (w.alloc (.cells #[.int .i64 u.1, .int .i64 u.2.1, .int .i64 u.2.2] 27)).cell? ⟨E, 0, none⟩ = some (.int .i64 ep) := (HB.out.cell (p := ⟨E, 0, none⟩) (World.block_lt_of_cell? w _ hE)).trans hE
  clear hL hE
  generalize soon lba ep u = q at *
  obtain ⟨a0, a1, a2⟩ := u
  dsimp only at HE HX HB m0 m1 ⊢
  go_enter Try.func44, Try.ntmps44
  go_upto_region 1 with (fail)
  generalize World.alloc w _ = W1 at *
  obtain ⟨k0, k1, k2⟩ := HX.out
  dsimp only at k0 k1 k2
  cases h0 : decide (a0 < lba)
  · cases h1 : decide (a0 = lba)
    · rw [h0, h1] at HE
      have h1' : (a0 == lba) = false := by rw [beq_eq_false_iff_ne]; exact of_decide_eq_false h1
      go_wp2
      go_ret
      exact ⟨by rw [HE.out] <;> rfl, HB.out⟩
    · rw [h0, h1] at HE
      have h1' : (a0 == lba) = true := by rw [beq_iff_eq]; exact of_decide_eq_true h1
      go_wp2
      go_ret
      exact ⟨by rw [HE.out] <;> simp, HB.out⟩
  · rw [h0] at HE
    go_wp2
    go_ret
    exact ⟨by rw [HE.out] <;> simp, HB.out⟩
theorem uptoC (L : Nat) (lba : Int) (u : V) (w : World) (hL : w.cell? ⟨L, 0, none⟩ = some (.int .i64 lba)) :
    Calls Try.prog 45 #[.agg #[.int .i64 u.1, .int .i64 u.2.1, .int .i64 u.2.2], .pointer (some ⟨L, 0, none⟩)] w fun e w' => e = .returned (.bool (upto lba u)) ∧ Below w.heap.size w w' := by
  have HE := Lib.hid (show upto lba u = decide (u.1 ≤ lba) from rfl)
  have HX := Lib.hid (box_new w u)
  have HB := Lib.hid (below_new w (.cells #[.int .i64 u.1, .int .i64 u.2.1, .int .i64 u.2.2] 27))
  have m0 : (w.alloc (.cells #[.int .i64 u.1, .int .i64 u.2.1, .int .i64 u.2.2] 27)).cell? ⟨L, 0, none⟩ = some (.int .i64 lba) := (HB.out.cell (p := ⟨L, 0, none⟩) (World.block_lt_of_cell? w _ hL)).trans hL
  clear hL
  generalize upto lba u = q at *
  obtain ⟨a0, a1, a2⟩ := u
  dsimp only at HE HX HB m0 ⊢
  go_enter Try.func45, Try.ntmps45
  go_upto_region 1 with (fail)
  generalize World.alloc w _ = W1 at *
  obtain ⟨k0, k1, k2⟩ := HX.out
  dsimp only at k0 k1 k2
  go_wp2
  go_ret
  exact ⟨by rw [HE.out] <;> rfl, HB.out⟩
end Go.Proofs.Ytnebbbloipdnbaa.IdxG
