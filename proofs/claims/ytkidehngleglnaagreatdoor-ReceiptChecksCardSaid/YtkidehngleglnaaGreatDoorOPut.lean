/- What octet.Put answers: the walk of its text. -/
import Derived.Test.YtkidehngleglnaaGreatDoorLOct
import Derived.Test.YtkidehngleglnaaGreatDoorRows
import Derived.Test.YtkidehngleglnaaGreatDoorMem
namespace Go.Proofs.YtkidehngleglnaaGreatDoor.OPut
open Go.RowKit
theorem info5 : (Tryz.prog.info? 5).map (fun i => (i.zero, i.size, i.bytes)) = some (some (.int .u8 0), 1, 1) := by kernel_rfl

theorem narrow (n width : Int) (w : World) (h : ¬ 1 ≤ width) :
    Calls Tryz.prog 21 #[.int .i64 n, .int .i64 width] w fun e w' => e = .returned (.tuple #[.string ⟨#[]⟩, .int .i64 2]) ∧ w = w' := by
  go_enter Tryz.func21, Tryz.ntmps21
  go_wp2
  go_ret2
  exact ⟨rfl, rfl⟩
theorem wide (n width : Int) (w : World) (h : ¬ width ≤ 8) :
    Calls Tryz.prog 21 #[.int .i64 n, .int .i64 width] w fun e w' => e = .returned (.tuple #[.string ⟨#[]⟩, .int .i64 2]) ∧ w = w' := by
  have h1 : 1 ≤ width := by omega
  go_enter Tryz.func21, Tryz.ntmps21
  go_wp2
  go_ret2
  exact ⟨rfl, rfl⟩
theorem below (n width : Int) (w : World) (h1 : 1 ≤ width) (h2 : width ≤ 8) (h : n < 0) :
    Calls Tryz.prog 21 #[.int .i64 n, .int .i64 width] w fun e w' => e = .returned (.tuple #[.string ⟨#[]⟩, .int .i64 2]) ∧ w = w' := by
  go_enter Tryz.func21, Tryz.ntmps21
  go_wp2
  go_ret2
  exact ⟨rfl, rfl⟩
theorem great (n width : Int) (w : World) (h1 : 1 ≤ width) (h2 : width ≤ 8) (h0 : 0 ≤ n) (h : (n / 2 ^ (8 * width).toNat != 0) = true) :
    Calls Tryz.prog 21 #[.int .i64 n, .int .i64 width] w fun e w' => e = .returned (.tuple #[.string ⟨#[]⟩, .int .i64 2]) ∧ w = w' := by
  go_enter Tryz.func21, Tryz.ntmps21
  go_wp2
  go_ret2
  exact ⟨rfl, rfl⟩
/-- The row behind 'j' rounds: noughts, then the 'j' lowest bytes. -/
def row (k j n : Nat) : List UInt8 := List.replicate (k - j) 0 ++ be j n
theorem row_size (k j n : Nat) (h : j ≤ k) : (row k j n).length = k := by simp [row, be_length]; omega
theorem row_next (k j n : Nat) (h : j < k) : (bytesRow (row k j n)).setIfInBounds (k - 1 - j) (.int .u8 ((n : Int) / 2 ^ (8 * j) % 256)) = bytesRow (row k (j + 1) n) := by
  have e : k - j = (k - (j + 1)) + 1 := by omega
  have e2 : k - 1 - j = k - (j + 1) := by omega
  have hp : (2 : Int) ^ (8 * j) = ((256 ^ j : Nat) : Int) := by rw [Int.pow_mul]; simp
  have hv : (n : Int) / 2 ^ (8 * j) % 256 = ((UInt8.ofNat (n / 256 ^ j)).toNat : Int) := by
    rw [hp, UInt8.toNat_ofNat']; omega
  rw [hv, bytesRow_set]
  unfold row
  rw [e, List.replicate_succ', e2, be]
  simp
theorem good (n k : Nat) (w : World) (h1 : 1 ≤ k) (h2 : k ≤ 8) (h : ((n : Int) / 2 ^ (8 * k) != 0) = false) :
    Calls Tryz.prog 21 #[.int .i64 n, .int .i64 k] w fun e w' => e = .returned (.tuple #[.string ⟨(be k n).toArray⟩, .int .i64 0]) ∧ Below w.heap.size w w' := by
  obtain ⟨i0, hi, hz0, hz1, hz2⟩ := info_parts info5
  have hmk : ∀ W : World, (Instr.makeSlice 65 (.int .i64 (k : Int)) (.int .i64 (k : Int))).run Tryz.prog W = .ok (.slice (some ⟨W.heap.size, 0, none⟩) k k) (W.alloc (.cells (bytesRow (row k 0 n)) 5)) := by
    intro W
    have := run_make (P := Tryz.prog) W 65 5 i0 (.int .u8 0) Tryz.underlying65 hi hz0 .i64 .i64 k k (by omega) (by omega) (by rw [hz2]; omega) (by omega)
    simp only [hz1, Value.cells, Int.toNat_natCast, Nat.mul_one, made_bytes] at this
    simpa [row, be] using this
  clear hi hz0 hz1 hz2
  go_enter Tryz.func21, Tryz.ntmps21
  go_wp2
  go_loopw [25] (fun i wr => ∃ j : Nat, j ≤ k ∧ i = .int .i64 j ∧ wr.heap[w.heap.size]? = some (.cells (bytesRow (row k j n)) 5 (0, 0)) ∧ Below w.heap.size w wr) (fun i _ => k - (intOf i).toNat)
  case atStart => exact ⟨0, Nat.zero_le _, rfl, heap_alloc_new w _, (Below.refl _ _).alloc (Nat.le_refl _) _⟩
  case round =>
    obtain ⟨j, hj, rfl, hb, hbel⟩ := hrel
    by_cases hlt : j < k
    · have hfz := blk_free (i := k - 1 - j) hb
      have hv := blk_cell hb (bytesRow_at _ (k - 1 - j) (by rw [row_size _ _ _ hj]; omega))
      have hB := Lib.hid hb
      clear hb
      go_wp2
      go_roundw
      case rel => exact ⟨j + 1, by omega, by go_num, by rw [blk_set hB.out, row_next k j n hlt], hbel.setCell (Nat.le_refl _) _⟩
      case measure => simp [intOf]; omega
    · have hk : j = k := by omega
      subst hk
      have hb' : wr.heap[w.heap.size]? = some (.cells (bytesRow (be j n ++ [])) 5 (0, 0)) := by rw [hb]; simp [row]
      have hcv := conv_row (P := Tryz.prog) (src := 65) (dst := 9) (cap := j) Tryz.underlying65 Tryz.underlying5 Tryz.underlying9 hb' (be_length _ _)
      clear hb hb'
      go_wp2
      go_ret2
      exact ⟨rfl, hbel⟩
/-- THE CONTRACT of octet.Put, at any two numbers. -/
theorem any (n width : Int) (w : World) :
    Calls Tryz.prog 21 #[.int .i64 n, .int .i64 width] w fun e w' => e = .returned (.tuple #[.string ⟨(put n width).1.toArray⟩, .int .i64 (put n width).2]) ∧ Below w.heap.size w w' := by
  have bad : ∀ {e : Ending} {w' : World}, (¬ (1 ≤ width ∧ width ≤ 8 ∧ 0 ≤ n ∧ n < 256 ^ width.toNat)) → (e = .returned (.tuple #[.string ⟨#[]⟩, .int .i64 2]) ∧ w = w') →
      e = .returned (.tuple #[.string ⟨(put n width).1.toArray⟩, .int .i64 (put n width).2]) ∧ Below w.heap.size w w' := by
    rintro e w' h ⟨rfl, rfl⟩
    rw [put_bad n width h]
    exact ⟨rfl, Below.refl _ _⟩
  by_cases h1 : 1 ≤ width
  · by_cases h2 : width ≤ 8
    · by_cases h3 : 0 ≤ n
      · obtain ⟨k, rfl⟩ := Int.eq_ofNat_of_zero_le (show 0 ≤ width by omega)
        obtain ⟨m, rfl⟩ := Int.eq_ofNat_of_zero_le h3
        have hp : (2 : Int) ^ (8 * k) = 256 ^ k := by rw [Int.pow_mul]; simp
        have hpos : (0 : Int) < 256 ^ k := Int.pow_pos (by omega)
        by_cases h4 : (m : Int) < 256 ^ k
        · have hd : ((m : Int) / 2 ^ (8 * k) != 0) = false := by rw [hp, Int.ediv_eq_zero_of_lt h3 h4]; rfl
          rw [put_good _ _ h1 h2 h3 (by simpa using h4)]
          exact good m k w (by omega) (by omega) hd
        · have hd : ((m : Int) / 2 ^ (8 * (k : Int)).toNat != 0) = true := by
            have e : (8 * (k : Int)).toNat = 8 * k := by omega
            rw [e, hp, bne_iff_ne]
            intro h0
            exact h4 (by have := Int.lt_mul_ediv_self_add (x := (m : Int)) hpos; rw [h0] at this; simpa using this)
          exact (great m k w h1 h2 h3 hd).mono fun _ _ h => bad (fun hh => h4 (by simpa using hh.2.2.2)) h
      · exact (below n width w h1 h2 (by omega)).mono fun _ _ h => bad (fun hh => h3 hh.2.2.1) h
    · exact (wide n width w h2).mono fun _ _ h => bad (fun hh => h2 hh.2.1) h
  · exact (narrow n width w h1).mono fun _ _ h => bad (fun hh => h1 hh.1) h
end Go.Proofs.YtkidehngleglnaaGreatDoor.OPut
