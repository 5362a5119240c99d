/- The document's trees of hashes: Whole, Half, Long; two rows of texts held against each other: the walks of their texts. No conditions but those that each lemma names. -/
import Derived.Test.YtcadfpaihfaabaaGreatDoorMerP
import Derived.LoopN
namespace Go.Proofs.YtcadfpaihfaabaaGreatDoor.MerH
open Go.RowKit SSum MerQ MerN MerM MerC MerP
theorem Half (n : Nat) (h2 : 2 ≤ n) (hn : n ≤ 1048576) (w : World) : Calls Tryz.prog 29 #[.int .i64 (n : Int)] w fun e w' => e = .returned (.int .i64 (MerN.half n : Nat)) ∧ w = w' := by
  go_enter Tryz.func29, Tryz.ntmps29
  go_wp2
  go_loop [3] (fun i => ∃ j m : Nat, Hid (2 ^ j = m) ∧ i = .int .i64 m ∧ m < n ∧ 1 ≤ m) (fun i => n - (intOf i).toNat)
  case atStart => exact ⟨0, 1, Lib.hid rfl, rfl, by omega, by omega⟩
  case round =>
    obtain ⟨j, m, hm, rfl, hlt, h1⟩ := hrel
    by_cases h : 2 * m < n
    · have q1 : 2 * (m : Int) < (n : Int) := by omega
      go_wp2
      go_round
      case rel => exact ⟨j + 1, 2 * m, Lib.hid (by rw [Nat.pow_succ, hm.out, Nat.mul_comm]), by go_num, h, by omega⟩
      case measure => simp [intOf]; omega
    · have HE := Lib.hid (half_is (n := n) (j := j) (by rw [hm.out]; exact hlt) (by rw [hm.out]; omega))
      have q1 : ¬ 2 * (m : Int) < (n : Int) := by omega
      go_wp2
      go_ret
      exact ⟨by rw [HE.out, hm.out]; rfl, rfl⟩
theorem longN_le {n i : Nat} (hi : i < n) (hn : n ≤ 1048576) : longN n i ≤ 20 := long_most hi (show n ≤ 2 ^ 20 by simpa using hn)
end Go.Proofs.YtcadfpaihfaabaaGreatDoor.MerH
