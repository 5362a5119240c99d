/- What sha's 'Pad' answers: the walk of its text; strings.Repeat by the library's own contract. -/
import Derived.Test.YtoilcieineejiaaGreatDoorLShn
import Derived.Test.YtoilcieineejiaaGreatDoorRows
import Derived.Test.YtoilcieineejiaaGreatDoorLMem
import Derived.Test.YtoilcieineejiaaGreatDoorShelf
import Derived.Test.YtoilcieineejiaaGreatDoorLPut
namespace Go.Proofs.YtoilcieineejiaaGreatDoor.SPad
open Go.RowKit
theorem repeated (k : Nat) (w : World) (h : k ≤ 65536) :
    Calls Tryz.prog 32 #[.string ⟨#[0]⟩, .int .i64 k] w fun e w' => e = .returned (.string ⟨(List.replicate k 0).toArray⟩) ∧ Below w.heap.size w w' := by
  have := Tryz.strings_Repeat ⟨#[0]⟩ k w (by omega) (by show 1 * k ≤ _; omega)
  have e : Lib.repeatL ((⟨#[0]⟩ : ByteArray).data.toList) k = List.replicate k 0 := by
    have := Lib.repeatL_replicate 0 1 k
    rw [Nat.mul_one] at this
    exact this
  rw [e] at this
  exact this
theorem low (n : Int) (w : World) (h : n < 0) :
    Calls Tryz.prog 138 #[.int .i64 n] w fun e w' => e = .returned (.tuple #[.string ⟨#[]⟩, .int .i64 2]) ∧ w = w' := by
  go_enter Tryz.func138, Tryz.ntmps138
  go_wp2
  go_ret2
  exact ⟨rfl, rfl⟩
theorem high (n : Int) (w : World) (h0 : ¬ n < 0) (h : 576460752303423488 < n) :
    Calls Tryz.prog 138 #[.int .i64 n] w fun e w' => e = .returned (.tuple #[.string ⟨#[]⟩, .int .i64 2]) ∧ w = w' := by
  go_enter Tryz.func138, Tryz.ntmps138
  go_wp2
  go_ret2
  exact ⟨rfl, rfl⟩
theorem good (n : Nat) (w : World) (h : ¬ 576460752303423488 < (n : Int)) :
    Calls Tryz.prog 138 #[.int .i64 n] w fun e w' => e = .returned (.tuple #[.string ⟨(pad n).toArray⟩, .int .i64 0]) ∧ Below w.heap.size w w' := by
  have h0 : ¬ (n : Int) < 0 := by omega
  have hp : ∀ W, Calls Tryz.prog 75 #[.int .i64 (8 * (n : Int)), .int .i64 8] W fun e w' => e = .returned (.tuple #[.string ⟨(be 8 (8 * n)).toArray⟩, .int .i64 0]) ∧ Below W.heap.size W w' := by
    intro W
    have := OPut.any (8 * (n : Int)) 8 W
    rw [put_good _ _ (by omega) (by omega) (by omega) (by simp only [Int.reduceToNat, Int.reducePow]; omega)] at this
    have e : (8 * (n : Int)).toNat = 8 * n := by omega
    rw [e] at this
    exact this
  obtain ⟨k, hk, hk2⟩ : ∃ k : Nat, k = (64 - (n + 9) % 64) % 64 ∧ k < 64 := ⟨_, rfl, by omega⟩
  have hr := fun W => repeated k W (by omega)
  have hq : (64 - ((n : Int) + 1 + 8) % 64) % 64 = (k : Int) := by omega
  have hpad : pad n = 128 :: (List.replicate k 0 ++ be 8 (8 * n)) := by rw [pad, hk]
  have hl : (List.replicate k (0 : UInt8)).length ≤ 64 := by rw [List.length_replicate]; omega
  have hl2 : (be 8 (8 * n)).length ≤ 8 := by rw [be_length]; omega
  have hkk : (k : Int) ≤ 64 := by omega
  clear hk hk2
  generalize List.replicate k (0 : UInt8) = z at *
  generalize be 8 (8 * n) = y at *
  have HP := Lib.hid hp
  have HR := Lib.hid hr
  have HQ := Lib.hid hpad
  clear hp hr hpad
  go_enter Tryz.func138, Tryz.ntmps138
  go_wp2_with (first
    | (go_at_call 75; refine (HP.out _).mono ?_; rintro e w1 ⟨rfl, hb1⟩)
    | (go_at_call 32; refine (HR.out _).mono ?_; rintro e w2 ⟨rfl, hb2⟩))
  rw [show (⟨#[128]⟩ ++ ⟨z.toArray⟩ ++ ⟨y.toArray⟩ : ByteArray) = ⟨(pad n).toArray⟩ from by rw [HQ.out, ByteArray.mk_append_mk, ByteArray.mk_append_mk]; simp]
  go_ret2
  exact ⟨rfl, hb1.trans (hb2.mono hb1.size)⟩
end Go.Proofs.YtoilcieineejiaaGreatDoor.SPad
