/- What octet.Fill answers: the walk of its text; strings.Repeat by the library's own contract. -/
import Derived.Test.YtoilcieineejiaaGreatDoorLOct
import Derived.Test.YtoilcieineejiaaGreatDoorRows
import Derived.Test.YtoilcieineejiaaGreatDoorLMem
import Derived.Test.YtoilcieineejiaaGreatDoorShelf
namespace Go.Proofs.YtoilcieineejiaaGreatDoor.OFill
open Go.RowKit
theorem repeated (k : Nat) (w : World) (h : k ≤ 65536) :
    Calls Tryz.prog 32 #[.string ⟨#[0]⟩, .int .i64 k] w fun e w' => e = .returned (.string ⟨(List.replicate k 0).toArray⟩) ∧ Below w.heap.size w w' := by
  have := Tryz.strings_Repeat ⟨#[0]⟩ k w (by omega) (by show 1 * k ≤ _; omega)
  have e : Lib.repeatL ((⟨#[0]⟩ : ByteArray).data.toList) k = List.replicate k 0 := by
    have := Lib.repeatL_replicate 0 1 k
    rw [Nat.mul_one] at this
    exact this
  rw [e] at this
  exact this
theorem long (s : ByteArray) (n : Int) (w : World) (h : n < (s.size : Int)) :
    Calls Tryz.prog 76 #[.string s, .int .i64 n] w fun e w' => e = .returned (.tuple #[.string ⟨#[]⟩, .int .i64 2]) ∧ w = w' := by
  go_enter Tryz.func76, Tryz.ntmps76
  go_wp2
  go_ret2
  exact ⟨rfl, rfl⟩
theorem high (s : ByteArray) (n : Int) (w : World) (h1 : ¬ n < (s.size : Int)) (h : 65536 < n) :
    Calls Tryz.prog 76 #[.string s, .int .i64 n] w fun e w' => e = .returned (.tuple #[.string ⟨#[]⟩, .int .i64 2]) ∧ w = w' := by
  go_enter Tryz.func76, Tryz.ntmps76
  go_wp2
  go_ret2
  exact ⟨rfl, rfl⟩
theorem good (s : ByteArray) (k : Nat) (w : World) (h1 : ¬ 65536 < ((s.size + k : Nat) : Int)) :
    Calls Tryz.prog 76 #[.string s, .int .i64 (s.size + k : Nat)] w fun e w' => e = .returned (.tuple #[.string (s ++ ⟨(List.replicate k 0).toArray⟩), .int .i64 0]) ∧ Below w.heap.size w w' := by
  have h2 : ¬ ((s.size + k : Nat) : Int) < (s.size : Int) := by omega
  have hp := fun W => repeated k W (by omega)
  have hl : (List.replicate k (0 : UInt8)).length ≤ 65536 := by rw [List.length_replicate]; omega
  have e : ((s.size + k : Nat) : Int) - (s.size : Int) = (k : Int) := by omega
  generalize hm : s.size + k = m at *
  clear hm
  have E := Lib.hid e
  have Hp := Lib.hid hp
  clear e hp
  generalize List.replicate k (0 : UInt8) = z at *
  go_enter Tryz.func76, Tryz.ntmps76
  go_wp2_with fail
  rw [E.out]
  refine (Hp.out _).mono ?_
  rintro e w' ⟨rfl, hb⟩
  go_wp2
  go_ret2
  exact ⟨rfl, hb⟩
/-- THE CONTRACT of octet.Fill, at any text and number. -/
theorem any (s : ByteArray) (n : Int) (w : World) :
    Calls Tryz.prog 76 #[.string s, .int .i64 n] w fun e w' => e = .returned (.tuple #[.string (fill s n).1, .int .i64 (fill s n).2]) ∧ Below w.heap.size w w' := by
  by_cases h2 : n < (s.size : Int)
  · rw [fill_bad s n (.inr h2)]
    exact (long s n w h2).mono fun _ _ ⟨h1, h2⟩ => ⟨h1, h2 ▸ Below.refl _ _⟩
  · by_cases h1 : 65536 < n
    · rw [fill_bad s n (.inl h1)]
      exact (high s n w h2 h1).mono fun _ _ ⟨h1, h2⟩ => ⟨h1, h2 ▸ Below.refl _ _⟩
    · obtain ⟨k, rfl⟩ : ∃ k : Nat, n = ((s.size + k : Nat) : Int) := ⟨(n - s.size).toNat, by omega⟩
      rw [fill_good s k (by omega)]
      exact good s k w h1
end Go.Proofs.YtoilcieineejiaaGreatDoor.OFill
