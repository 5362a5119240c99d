/- What aes.double, Mul, spread and math/bits.RotateLeft8 at a negative count answer: the walks of their texts. -/
import Derived.Test.YtjlepjnfacmieaaAesM
import Derived.Test.YtjlepjnfacmieaaRows
import Derived.WalkKit
import Derived.Laws.BitsAllLaws
import Derived.Lib.Hide
import Derived.Outline
import Derived.Below
import Derived.Deep.QuietTactic
import Derived.BigQuiet
namespace Go.Proofs.Ytjlepjnfacmieaa.ADbl
open Go.RowKit
open AesM
theorem x8 (a b : UInt8) : bits .xor .u8 (a.toNat : Int) (b.toNat : Int) = ((a ^^^ b).toNat : Int) := by
  rw [u8_xor_nat _ _ a.toNat_lt b.toNat_lt, UInt8.toNat_xor]
theorem a8 (a b : UInt8) : bits .and .u8 (a.toNat : Int) (b.toNat : Int) = ((a &&& b).toNat : Int) := by
  rw [u8_and_nat _ _ a.toNat_lt b.toNat_lt, UInt8.toNat_and]
theorem o8 (a b : UInt8) : bits .or .u8 (a.toNat : Int) (b.toNat : Int) = ((a ||| b).toNat : Int) := by
  rw [u8_or_nat _ _ a.toNat_lt b.toNat_lt, UInt8.toNat_or]
theorem shr8 (b : UInt8) (j : Nat) (h : j < 8) : (b.toNat : Int) / 2 ^ j = ((b >>> UInt8.ofNat j).toNat : Int) := by
  rw [UInt8.toNat_shiftRight, UInt8.toNat_ofNat', show j % 2 ^ 8 = j from Nat.mod_eq_of_lt (by omega), Nat.mod_eq_of_lt h, Nat.shiftRight_eq_div_pow]
  simp
theorem shl8 (b : UInt8) (j : Nat) (h : j < 8) : (b.toNat : Int) * 2 ^ j % 256 = ((b <<< UInt8.ofNat j).toNat : Int) := by
  rw [UInt8.toNat_shiftLeft, UInt8.toNat_ofNat', show j % 2 ^ 8 = j from Nat.mod_eq_of_lt (by omega), Nat.mod_eq_of_lt h, Nat.shiftLeft_eq]
  simp
theorem dbl_walk (b : UInt8) : bits .xor .u8 ((b.toNat : Int) * 2 % 256) (27 * ((b.toNat : Int) / 128) % 256) = ((dbl b).toNat : Int) := by
  revert b
  exact byte_all (by decide +kernel)
theorem double (b : UInt8) (w : World) : Calls Try.prog 40 #[.int .u8 b.toNat] w fun e w' => e = .returned (.int .u8 (dbl b).toNat) ∧ w = w' := by
  go_enter Try.func40, Try.ntmps40
  go_wp2
  go_ret
  rw [← dbl_walk]
  exact ⟨rfl, rfl⟩
theorem one8 (b : UInt8) (j : Nat) (h : j < 8) : bits .and .u8 ((b.toNat : Int) / 2 ^ j) 1 = (((b >>> UInt8.ofNat j) &&& 1).toNat : Int) := by
  rw [shr8 b j h]
  exact a8 _ 1
theorem m8 (a b : UInt8) : (a.toNat : Int) * (b.toNat : Int) % 256 = ((a * b).toNat : Int) := by
  rw [UInt8.toNat_mul]; simp
theorem round (a b o : UInt8) (j : Nat) (h : j < 8) : bits .xor .u8 (o.toNat : Int) ((a.toNat : Int) * bits .and .u8 ((b.toNat : Int) / 2 ^ j) 1 % 256) = ((o ^^^ sel a b j).toNat : Int) := by
  rw [one8 b j h, m8, x8]; rfl
theorem neg7 (i : Nat) (h1 : 4 ≤ i) (h2 : i < 8) : bits .and .u64 (IntKind.u64.wrap (-(i : Int))) 7 = ((8 - i : Nat) : Int) := by
  match i, h1, h2 with
  | 4, _, _ => decide
  | 5, _, _ => decide
  | 6, _, _ => decide
  | 7, _, _ => decide
theorem rot (b : UInt8) (i : Nat) (w : World) (h1 : 4 ≤ i) (h2 : i < 8) :
    Calls Try.prog 46 #[.int .u8 b.toNat, .int .i64 (-(i : Int))] w fun e w' => e = .returned (.int .u8 (rol b i).toNat) ∧ w = w' := by
  obtain ⟨m, hm, h3, h4⟩ : ∃ m, m = 8 - i ∧ 1 ≤ m ∧ m < 8 := ⟨8 - i, rfl, by omega, by omega⟩
  have ha := neg7 i h1 h2
  rw [← hm] at ha
  have hs : (8 : Int) - (m : Int) = (i : Int) := by omega
  have HM := Lib.hid hm
  clear hm
  go_enter Try.func46, Try.ntmps46
  go_wp2
  go_ret
  rw [shl8 b m h4, shr8 b i h2, o8, HM.out]
  exact ⟨rfl, rfl⟩
theorem spread (b : UInt8) (w : World) : Calls Try.prog 39 #[.int .u8 b.toNat] w fun e w' => e = .returned (.int .u8 (spr b).toNat) ∧ w = w' := by
  have h0 : bits .xor .u8 (b.toNat : Int) 99 = ((sprTo b 0).toNat : Int) := x8 b 99
  have H0 := Lib.hid h0
  clear h0
  go_enter Try.func39, Try.ntmps39
  go_wp2_with fail
  go_loop [3, 4] (fun o i => ∃ j : Nat, j ≤ 4 ∧ i = .int .i64 ((j : Int) + 4) ∧ o = .int .u8 (sprTo b j).toNat) (fun _ i => 8 - (intOf i).toNat)
  case atStart => exact ⟨0, Nat.zero_le _, rfl, by rw [H0.out]⟩
  case round =>
    obtain ⟨j, hj, rfl, rfl⟩ := hrel
    by_cases hlt : j < 4
    · have hx := Lib.hid (x8 (sprTo b j) (rol b (j + 4)))
      have h1 : Hid (sprTo b j ^^^ rol b (j + 4) = sprTo b (j + 1)) := rfl
      rw [h1] at hx
      have HR := Lib.hid (fun W => rot b (j + 4) W (by omega) (by omega))
      rw [show (((j + 4 : Nat) : Nat) : Int) = (j : Int) + 4 from by omega] at HR
      generalize sprTo b j = o0 at *
      generalize rol b (j + 4) = d0 at *
      go_wp2_with (go_at_call 46; refine (HR.out _).mono ?_; rintro e w' ⟨rfl, rfl⟩)
      go_round
      case rel => exact ⟨j + 1, by omega, by go_num, by rw [hx.out]⟩
      case measure => simp [intOf]; omega
    · have hk : j = 4 := by omega
      subst hk
      go_wp2
      go_ret
      exact ⟨rfl, rfl⟩
end Go.Proofs.Ytjlepjnfacmieaa.ADbl
