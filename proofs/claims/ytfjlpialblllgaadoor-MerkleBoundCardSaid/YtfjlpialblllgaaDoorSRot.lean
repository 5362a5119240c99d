/- What math/bits.RotateLeft32 answers at a negative count, and sha's 'turned' and 'half': the walks of their texts. -/
import Derived.Test.YtfjlpialblllgaaDoorShaNum
import Derived.Test.YtfjlpialblllgaaDoorRows
import Derived.WalkKit
import Derived.Laws.BitsAllLaws
import Derived.Lib.Hide
import Derived.Outline
import Derived.Deep.QuietTactic
import Derived.BigQuiet
namespace Go.Proofs.YtfjlpialblllgaaDoor.SRot
open Go.RowKit
theorem and31 (n m : Nat) (h1 : 1 ≤ m) (h0 : 1 ≤ n) (h2 : n + m = 32) : bits .and .u64 (IntKind.u64.wrap (-(n : Int))) 31 = (m : Int) := by
  have e : IntKind.u64.wrap (-(n : Int)) = ((18446744073709551616 - n : Nat) : Int) := by
    rw [IntKind.wrap_u64]
    omega
  rw [e, show (31 : Int) = ((31 : Nat) : Int) from rfl, u64_and_nat _ _ (by omega) (by omega), nat_mask5]
  omega
theorem or_ro (x n m : Nat) (hx : x < 4294967296) (h : n + m = 32) : bits .or .u32 ((x : Int) * 2 ^ m % 4294967296) ((x : Int) / 2 ^ n) = ((ro x n : Nat) : Int) := by
  have e1 : ((x : Int) * 2 ^ m % 4294967296) = ((x * 2 ^ m % 4294967296 : Nat) : Int) := by simp
  have e2 : ((x : Int) / 2 ^ n) = ((x / 2 ^ n : Nat) : Int) := by simp
  rw [e1, e2, u32_or_nat _ _ (Nat.mod_lt _ (by omega)) (Nat.lt_of_le_of_lt (Nat.div_le_self _ _) hx), ro, show 32 - n = m from by omega, Nat.or_comm]
theorem rot (x n : Nat) (w : World) (hx : x < 4294967296) (h1 : 1 ≤ n) (h2 : n ≤ 31) :
    Calls Tryd.prog 76 #[.int .u32 x, .int .i64 (-(n : Int))] w fun e w' => e = .returned (.int .u32 (ro x n : Nat)) ∧ w = w' := by
  obtain ⟨m, hm, h3, h4⟩ : ∃ m, n + m = 32 ∧ 1 ≤ m ∧ m ≤ 31 := ⟨32 - n, by omega⟩
  have ha := and31 n m h3 h1 hm
  have hs : (32 : Int) - (m : Int) = (n : Int) := by omega
  have HM := Lib.hid hm
  clear hm
  go_enter Tryd.func76, Tryd.ntmps76
  go_wp2
  go_ret
  rw [or_ro x n m hx HM.out]
  exact ⟨rfl, rfl⟩
theorem quiet_eq {P : Program} {f : FuncId} {args : Array Value} {w : World} {n : Nat} {v : Value}
    (h : Calls P f args (w.drewN n) fun e w' => e = .returned v ∧ w.drewN n = w') : Calls P f args (w.drewN n) fun e w'' => e = .returned v ∧ ∃ m, w'' = w.drewN m :=
  h.mono fun _ _ ⟨he, hm⟩ => ⟨he, n, hm.symm⟩
theorem turned (x i j k : Nat) (w : World) (hx : x < 4294967296) (h1 : 1 ≤ i) (h2 : i ≤ 31) (h3 : 1 ≤ j) (h4 : j ≤ 31) (h5 : 1 ≤ k) (h6 : k ≤ 31) :
    Calls Tryd.prog 62 #[.int .u32 x, .int .i64 i, .int .i64 j, .int .i64 k] w fun e w' => e = .returned (.int .u32 (three x i j k : Nat)) ∧ w = w' := by
  have r1 := ro_lt x i hx
  have r2 := ro_lt x j hx
  have r3 := ro_lt x k hx
  have e1 := u32_xor_nat _ _ r1 r2
  have e2 := u32_xor_nat _ _ (xor_lt _ _ r1 r2) r3
  go_enter Tryd.func62, Tryd.ntmps62
  go_wp2_with fail
  refine (rot x i _ hx h1 h2).mono ?_
  rintro e w' ⟨rfl, rfl⟩
  go_wp2_with fail
  refine (rot x j _ hx h3 h4).mono ?_
  rintro e w' ⟨rfl, rfl⟩
  go_wp2_with fail
  refine (rot x k _ hx h5 h6).mono ?_
  rintro e w' ⟨rfl, rfl⟩
  go_wp2
  go_ret
  exact ⟨rfl, rfl⟩
theorem half_ (x i j k : Nat) (w : World) (hx : x < 4294967296) (h1 : 1 ≤ i) (h2 : i ≤ 31) (h3 : 1 ≤ j) (h4 : j ≤ 31) (h5 : 1 ≤ k) (h6 : k ≤ 31) :
    Calls Tryd.prog 75 #[.int .u32 x, .int .i64 i, .int .i64 j, .int .i64 k] w fun e w' => e = .returned (.int .u32 (half x i j k : Nat)) ∧ ∃ n, w' = w.drewN n := by
  have r1 := ro_lt x i hx
  have r2 := ro_lt x j hx
  have r3 : x / 2 ^ k < 4294967296 := Nat.lt_of_le_of_lt (Nat.div_le_self _ _) hx
  have e1 := u32_xor_nat _ _ r1 r2
  have e2 := u32_xor_nat _ _ (xor_lt _ _ r1 r2) r3
  rw [show ((x / 2 ^ k : Nat) : Int) = (x : Int) / 2 ^ k from by simp] at e2
  go_enter Tryd.func75, Tryd.ntmps75
  go_wp2
  go_quiet ((go_at_call 76; exact quiet_eq (rot x _ _ hx (by assumption) (by assumption))))
  go_wp2
  go_ret
  exact ⟨rfl, _, rfl⟩
end Go.Proofs.YtfjlpialblllgaaDoor.SRot
