/- What keepsakeref01.Noughts and keepsakeref01.Fill answer: the walks of their texts. -/
import Derived.Test.YteepbebpcjapmaaOctNum
import Derived.Test.YteepbebpcjapmaaRows
import Derived.Test.YteepbebpcjapmaaMem
namespace Go.Proofs.Yteepbebpcjapmaa.RFill
open Go.RowKit
theorem info5 : (Try.prog.info? 5).map (fun i => (i.zero, i.size, i.bytes)) = some (some (.int .u8 0), 1, 1) := by kernel_rfl
theorem none_ (n : Int) (w : World) (h : n < 1) :
    Calls Try.prog 30 #[.int .i64 n] w fun e w' => e = .returned (.string ⟨#[]⟩) ∧ w = w' := by
  go_enter Try.func30, Try.ntmps30
  go_wp2
  go_ret
  exact ⟨rfl, rfl⟩
theorem some_ (k : Nat) (w : World) (h : ¬ (k : Int) < 1) (hk : k ≤ 281474976710656) :
    Calls Try.prog 30 #[.int .i64 k] w fun e w' => e = .returned (.string ⟨(List.replicate k 0).toArray⟩) ∧ Below w.heap.size w w' := by
  obtain ⟨i0, hi, hz0, hz1, hz2⟩ := info_parts info5
  have hmk : ∀ W : World, (Instr.makeSlice 53 (.int .i64 (k : Int)) (.int .i64 (k : Int))).run Try.prog W = .ok (.slice (some ⟨W.heap.size, 0, none⟩) k k) (W.alloc (.cells (bytesRow (List.replicate k 0)) 5)) := by
    intro W
    have := run_make (P := Try.prog) W 53 5 i0 (.int .u8 0) Try.underlying53 hi hz0 .i64 .i64 k k (by omega) (by omega) (by rw [hz2]; omega) (by omega)
    simp only [hz1, Value.cells, Int.toNat_natCast, Nat.mul_one, made_bytes] at this
    exact this
  have hcv : ∀ W : World, (convert 53 9 (.slice (some ⟨W.heap.size, 0, none⟩) k k)).run Try.prog (W.alloc (.cells (bytesRow (List.replicate k 0)) 5)) =
      .ok (.string ⟨(List.replicate k 0).toArray⟩) (W.alloc (.cells (bytesRow (List.replicate k 0)) 5)) := by
    intro W
    exact conv_row Try.underlying53 Try.underlying5 Try.underlying9 (m := []) (by rw [heap_alloc_new, List.append_nil]) (by simp)
  clear hi hz0 hz1 hz2
  generalize bytesRow (List.replicate k 0) = cs at *
  have hb : Below w.heap.size w (w.alloc (.cells cs 5)) := (Below.refl _ _).alloc (Nat.le_refl _) _
  generalize List.replicate k 0 = l at *
  go_enter Try.func30, Try.ntmps30
  go_wp2
  go_ret
  exact ⟨rfl, hb⟩
theorem noughts (k : Nat) (w : World) (hk : k ≤ 281474976710656) :
    Calls Try.prog 30 #[.int .i64 k] w fun e w' => e = .returned (.string ⟨(List.replicate k 0).toArray⟩) ∧ Below w.heap.size w w' := by
  by_cases h : (k : Int) < 1
  · obtain rfl : k = 0 := by omega
    exact (none_ _ w h).mono fun _ _ ⟨h1, h2⟩ => ⟨h1, h2 ▸ Below.refl _ _⟩
  · exact some_ k w h hk
theorem high (s : ByteArray) (n : Int) (w : World) (h : 65536 < n) :
    Calls Try.prog 21 #[.string s, .int .i64 n] w fun e w' => e = .returned (.tuple #[.string ⟨#[]⟩, .int .i64 2]) ∧ w = w' := by
  go_enter Try.func21, Try.ntmps21
  go_wp2
  go_ret2
  exact ⟨rfl, rfl⟩
theorem long (s : ByteArray) (n : Int) (w : World) (h1 : ¬ 65536 < n) (h : n < (s.size : Int)) :
    Calls Try.prog 21 #[.string s, .int .i64 n] w fun e w' => e = .returned (.tuple #[.string ⟨#[]⟩, .int .i64 2]) ∧ w = w' := by
  go_enter Try.func21, Try.ntmps21
  go_wp2
  go_ret2
  exact ⟨rfl, rfl⟩
theorem good (s : ByteArray) (k : Nat) (w : World) (h1 : ¬ 65536 < ((s.size + k : Nat) : Int)) :
    Calls Try.prog 21 #[.string s, .int .i64 (s.size + k : Nat)] w fun e w' => e = .returned (.tuple #[.string (s ++ ⟨(List.replicate k 0).toArray⟩), .int .i64 0]) ∧ Below w.heap.size w w' := by
  have h2 : ¬ ((s.size + k : Nat) : Int) < (s.size : Int) := by omega
  have hp := fun W => noughts k W (by omega)
  have hl : (List.replicate k (0 : UInt8)).length ≤ 65536 := by rw [List.length_replicate]; omega
  have e : ((s.size + k : Nat) : Int) - (s.size : Int) = (k : Int) := by omega
  generalize hm : s.size + k = m at *
  clear hm
  have E := Lib.hid e
  have Hp := Lib.hid hp
  clear e hp
  generalize List.replicate k (0 : UInt8) = z at *
  go_enter Try.func21, Try.ntmps21
  go_wp2_with fail
  rw [E.out]
  refine (Hp.out _).mono ?_
  rintro e w' ⟨rfl, hb⟩
  go_wp2
  go_ret2
  exact ⟨rfl, hb⟩
/-- THE CONTRACT of keepsakeref01.Fill, at any text and number. -/
theorem any (s : ByteArray) (n : Int) (w : World) :
    Calls Try.prog 21 #[.string s, .int .i64 n] w fun e w' => e = .returned (.tuple #[.string (fill s n).1, .int .i64 (fill s n).2]) ∧ Below w.heap.size w w' := by
  by_cases h1 : 65536 < n
  · rw [fill_bad s n (.inl h1)]
    exact (high s n w h1).mono fun _ _ ⟨h1, h2⟩ => ⟨h1, h2 ▸ Below.refl _ _⟩
  · by_cases h2 : n < (s.size : Int)
    · rw [fill_bad s n (.inr h2)]
      exact (long s n w h1 h2).mono fun _ _ ⟨h1, h2⟩ => ⟨h1, h2 ▸ Below.refl _ _⟩
    · obtain ⟨k, rfl⟩ : ∃ k : Nat, n = ((s.size + k : Nat) : Int) := ⟨(n - s.size).toNat, by omega⟩
      rw [fill_good s k (by omega)]
      exact good s k w h1
end Go.Proofs.Yteepbebpcjapmaa.RFill
