/- What octet.Get answers: the walk of its text. -/
import Derived.Test.YtkidehngleglnaaGreatDoorLOct
import Derived.Test.YtkidehngleglnaaGreatDoorRows
import Derived.Test.YtkidehngleglnaaGreatDoorOWid
namespace Go.Proofs.YtkidehngleglnaaGreatDoor.OGet
open Go.RowKit
theorem bad (s : ByteArray) (w : World) (h : ¬ (1 ≤ (s.size : Int) ∧ (s.size : Int) ≤ 8)) :
    Calls Tryz.prog 25 #[.string s] w fun e w' => e = .returned (.tuple #[.int .i64 0, .int .i64 3]) ∧ w = w' := by
  have H := Lib.hid h
  clear h
  go_enter Tryz.func25, Tryz.ntmps25
  go_wp2_with (go_at_call 41; refine (OWid.no _ _ H.out).mono ?_; rintro e w' ⟨rfl, rfl⟩)
  go_ret2
  exact ⟨rfl, rfl⟩
theorem good (s : ByteArray) (w : World) (h1 : 1 ≤ s.size) (h2 : s.size ≤ 8) :
    Calls Tryz.prog 25 #[.string s] w fun e w' => e = .returned (.tuple #[.int .i64 (get s.data.toList).1, .int .i64 (get s.data.toList).2]) ∧ w = w' := by
  go_enter Tryz.func25, Tryz.ntmps25
  go_wp2_with (go_at_call 41; refine (OWid.yes _ _ (by omega) (by omega)).mono ?_; rintro e w' ⟨rfl, rfl⟩)
  go_loop [4, 12] (fun n i => ∃ k : Nat, k ≤ s.size ∧ i = .int .i64 k ∧ n = .int .u64 (num (s.data.toList.take k))) (fun _ i => s.size - (intOf i).toNat)
  case atStart => exact ⟨0, Nat.zero_le _, rfl, rfl⟩
  case round =>
    obtain ⟨k, hk, rfl, rfl⟩ := hrel
    have hl : (s.data.toList.take k).length = k := by simp; omega
    have hlt0 := num_lt (s.data.toList.take k)
    rw [hl] at hlt0
    by_cases hlt : k < s.size
    · have hb : num (s.data.toList.take k) < 72057594037927936 := Nat.lt_of_lt_of_le hlt0 (Nat.pow_le_pow_right (n := 256) (i := k) (j := 7) (by omega) (by omega))
      clear hl hlt0
      have hts := Lib.hid (take_snoc s k hlt)
      go_wp2
      go_round
      case rel => exact ⟨k + 1, by omega, by go_num, by rw [hts.out, num_snoc, or8 _ _ hb s[k].toNat_lt]⟩
      case measure => simp [intOf]; omega
    · have ht : s.data.toList.take k = s.data.toList := List.take_of_length_le (by simp; omega)
      rw [ht] at hlt0 hl
      rw [ht]
      clear ht
      have hb : num s.data.toList < 18446744073709551616 := Nat.lt_of_lt_of_le hlt0 (Nat.pow_le_pow_right (n := 256) (i := k) (j := 8) (by omega) (by omega))
      by_cases hbig : num s.data.toList < 9223372036854775808
      · have hg := Lib.hid (get_good s.data.toList (by omega) (by omega) hbig)
        clear hl hlt0
        go_wp2
        go_ret2
        exact ⟨by rw [hg.out]; rfl, rfl⟩
      · have hg := Lib.hid (get_bad s.data.toList (fun h => hbig h.2.2))
        clear hl hlt0
        go_wp2
        go_ret2
        exact ⟨by rw [hg.out]; rfl, rfl⟩
/-- THE CONTRACT of octet.Get, at any text. -/
theorem any (s : ByteArray) (w : World) :
    Calls Tryz.prog 25 #[.string s] w fun e w' => e = .returned (.tuple #[.int .i64 (get s.data.toList).1, .int .i64 (get s.data.toList).2]) ∧ w = w' := by
  by_cases h : 1 ≤ s.size ∧ s.size ≤ 8
  · exact good s w h.1 h.2
  · refine (bad s w (by omega)).mono fun e w' => ?_
    rw [get_bad _ (fun hh => h (by have h1 := hh.1; have h2 := hh.2.1; simp at h1 h2; omega))]
    exact id
end Go.Proofs.YtkidehngleglnaaGreatDoor.OGet
