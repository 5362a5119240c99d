/- What keepsakeref01.Get answers: the walk of its text. -/
import Derived.Test.YtpnmhfaenmeimaaDoorOctNum
import Derived.Test.YtpnmhfaenmeimaaDoorRows
import Derived.Test.YtpnmhfaenmeimaaDoorMem
namespace Go.Proofs.YtpnmhfaenmeimaaDoor.RGet
open Go.RowKit
theorem short (s : ByteArray) (w : World) (h : ¬ 1 ≤ s.size) :
    Calls Tryd.prog 47 #[.string s] w fun e w' => e = .returned (.tuple #[.int .i64 0, .int .i64 3]) ∧ w = w' := by
  go_enter Tryd.func47, Tryd.ntmps47
  go_wp2
  go_ret2
  exact ⟨rfl, rfl⟩
theorem long (s : ByteArray) (w : World) (h : 8 < s.size) :
    Calls Tryd.prog 47 #[.string s] w fun e w' => e = .returned (.tuple #[.int .i64 0, .int .i64 3]) ∧ w = w' := by
  go_enter Tryd.func47, Tryd.ntmps47
  go_wp2
  go_ret2
  exact ⟨rfl, rfl⟩
set_option maxRecDepth 100000 in
theorem high (s : ByteArray) (w : World) (h1 : 8 ≤ s.size) (h2 : s.size ≤ 8) (hbig : ¬ num s.data.toList < 9223372036854775808) :
    Calls Tryd.prog 47 #[.string s] w fun e w' => e = .returned (.tuple #[.int .i64 0, .int .i64 3]) ∧ w = w' := by
  have h3 : ((s.size : Int) == 8) = true := by rw [beq_iff_eq]; omega
  have H := Lib.hid (num_eight s (by omega))
  have HB := Lib.hid hbig
  clear hbig
  go_enter Tryd.func47, Tryd.ntmps47
  go_wp2_with fail
  · go_ret2
    exact ⟨rfl, rfl⟩
  · exact absurd (H.out.2 (by omega)) HB.out
set_option maxRecDepth 100000 in
theorem eight (s : ByteArray) (w : World) (h1 : 1 ≤ s.size) (h2 : s.size ≤ 8) (h8 : 8 ≤ s.size) (hbig : num s.data.toList < 9223372036854775808) :
    Calls Tryd.prog 47 #[.string s] w fun e w' => e = .returned (.tuple #[.int .i64 (get s.data.toList).1, .int .i64 (get s.data.toList).2]) ∧ w = w' := by
  have h3 : ((s.size : Int) == 8) = true := by rw [beq_iff_eq]; omega
  have H := Lib.hid (num_eight s (by omega))
  have HB := Lib.hid hbig
  clear hbig
  go_enter Tryd.func47, Tryd.ntmps47
  go_wp2_with fail
  · exact absurd (H.out.1 HB.out) (by omega)
  have hbig := HB.out
  go_loop [4, 5] (fun n i => ∃ k : Nat, k ≤ s.size ∧ i = .int .i64 k ∧ n = .int .i64 (num (s.data.toList.take k))) (fun _ i => s.size - (intOf i).toNat)
  case atStart => exact ⟨0, Nat.zero_le _, rfl, rfl⟩
  case round =>
    obtain ⟨k, hk, rfl, rfl⟩ := hrel
    by_cases hlt : k < s.size
    · have hts := take_snoc s k hlt
      have hle := num_take_le s.data.toList (k + 1)
      rw [hts, num_snoc] at hle
      have Hts := Lib.hid hts
      clear hts
      go_wp2
      go_round
      case rel => exact ⟨k + 1, by omega, by go_num, by rw [Hts.out, num_snoc]; go_num⟩
      case measure => simp [intOf]; omega
    · have ht : s.data.toList.take k = s.data.toList := List.take_of_length_le (by simp; omega)
      rw [ht]
      have hg := Lib.hid (get_good s.data.toList (by simpa using h1) (by simpa using h2) hbig)
      clear ht
      go_wp2
      go_ret2
      exact ⟨by rw [hg.out]; rfl, rfl⟩
theorem fewer (s : ByteArray) (w : World) (h1 : 1 ≤ s.size) (h2 : s.size ≤ 8) (h8 : s.size < 8) :
    Calls Tryd.prog 47 #[.string s] w fun e w' => e = .returned (.tuple #[.int .i64 (get s.data.toList).1, .int .i64 (get s.data.toList).2]) ∧ w = w' := by
  have hbig : num s.data.toList < 9223372036854775808 := by
    refine Nat.lt_of_lt_of_le (num_lt s.data.toList) (Nat.le_trans (Nat.pow_le_pow_right (n := 256) (j := 7) (by omega) ?_) (by omega))
    simp; omega
  go_enter Tryd.func47, Tryd.ntmps47
  go_wp2
  go_loop [4, 5] (fun n i => ∃ k : Nat, k ≤ s.size ∧ i = .int .i64 k ∧ n = .int .i64 (num (s.data.toList.take k))) (fun _ i => s.size - (intOf i).toNat)
  case atStart => exact ⟨0, Nat.zero_le _, rfl, rfl⟩
  case round =>
    obtain ⟨k, hk, rfl, rfl⟩ := hrel
    by_cases hlt : k < s.size
    · have hts := take_snoc s k hlt
      have hle := num_take_le s.data.toList (k + 1)
      rw [hts, num_snoc] at hle
      have Hts := Lib.hid hts
      clear hts
      go_wp2
      go_round
      case rel => exact ⟨k + 1, by omega, by go_num, by rw [Hts.out, num_snoc]; go_num⟩
      case measure => simp [intOf]; omega
    · have ht : s.data.toList.take k = s.data.toList := List.take_of_length_le (by simp; omega)
      rw [ht]
      have hg := Lib.hid (get_good s.data.toList (by simpa using h1) (by simpa using h2) hbig)
      clear ht
      go_wp2
      go_ret2
      exact ⟨by rw [hg.out]; rfl, rfl⟩
/-- THE CONTRACT of keepsakeref01.Get, at any text. -/
theorem any (s : ByteArray) (w : World) :
    Calls Tryd.prog 47 #[.string s] w fun e w' => e = .returned (.tuple #[.int .i64 (get s.data.toList).1, .int .i64 (get s.data.toList).2]) ∧ w = w' := by
  have hsz : s.data.toList.length = s.size := by simp
  by_cases h1 : 1 ≤ s.size
  · by_cases h2 : s.size ≤ 8
    · by_cases h8 : 8 ≤ s.size
      · by_cases hbig : num s.data.toList < 9223372036854775808
        · exact eight s w h1 h2 h8 hbig
        · rw [get_bad _ (fun h => hbig h.2.2)]; exact high s w h8 h2 hbig
      · exact fewer s w h1 h2 (by omega)
    · rw [get_bad _ (fun h => h2 (by have := h.2.1; omega))]; exact long s w (by omega)
  · rw [get_bad _ (fun h => h1 (by have := h.1; omega))]; exact short s w h1
end Go.Proofs.YtpnmhfaenmeimaaDoor.RGet
